/-
  The document's (*State).Do, kind by kind: addresses, functions, copies.
-/
import Derived.Test.YtdbcjeccmjpbiabDoorTB
import Derived.Deep.RegionHeld3
import Derived.Deep.DeepCutAuto
import Derived.Test.YtdbcjeccmjpbiabDoorPZ8
import Derived.Deep.RegionLaw
namespace Go.Proofs.YtdbcjeccmjpbiabDoor
open Go.RowKit Go.Extern.Stop Go.Stop Go.Extern

abbrev set2 (w : World) (g i : Nat) (K : ByteArray) (N : Int) : World := (w.setCell ⟨g, i * 2, none⟩ (.string K)).setCell ⟨g, i * 2 + 1, none⟩ (.int .i64 N)
theorem o2 {w : World} {p o g i : Nat} {K : ByteArray} {N : Int} {v : Value} (h : w.cell? ⟨p, o, none⟩ = some v) (hn : p ≠ g) : (set2 w g i K N).cell? ⟨p, o, none⟩ = some v := other_cell (other_cell h hn) hn
theorem o2k {w : World} {g i j : Nat} {K : ByteArray} {N : Int} (h : w.cell? ⟨g, j * 2, none⟩ = some (.string K)) : (set2 w g i K N).cell? ⟨g, j * 2, none⟩ = some (.string K) := by
  have h1 := cell_set_same (p := ⟨g, i * 2, none⟩) h
  rw [World.cell?_setCell_other _ _ _ _ (fun e => by injection e; omega)]
  exact h1
theorem o2n {w : World} {g i j : Nat} {K : ByteArray} {N : Int} (h : w.cell? ⟨g, j * 2 + 1, none⟩ = some (.int .i64 N)) : (set2 w g i K N).cell? ⟨g, j * 2 + 1, none⟩ = some (.int .i64 N) := by
  refine cell_set_same ?_
  rw [World.cell?_setCell_other _ _ _ _ (fun e => by injection e; omega)]
  exact h
abbrev stmtBox (K : ByteArray) (x y : Int) (a : Value) : Obj := .cells #[.string K, .int .i64 x, .int .i64 y, a] 59

set_option maxRecDepth 100000 in
set_option maxHeartbeats 8000000 in
theorem doR_addr {w0 w : World} {Bt sb n1 m1 m2 n3 c1 c2 tb tq tc na ac : Nat} {p1 p2 aa : Option Addr} {s : StD} {xv xt xp : Value} (h : RSt w w0.heap.size Bt sb n1 s xv xt xp) (k x yn : Nat) (hk : k < n3) (hx : x < n1)
    (q0 : w.cell? ⟨tb, tq + k * 4, none⟩ = some (.string ⟨#[97, 100, 100, 114]⟩)) (q1 : w.cell? ⟨tb, tq + k * 4 + 1, none⟩ = some (.int .i64 (x : Int))) (q2 : w.cell? ⟨tb, tq + k * 4 + 2, none⟩ = some (.int .i64 (yn : Int))) (q3 : w.cell? ⟨tb, tq + k * 4 + 3, none⟩ = some (.slice aa na ac)) (_hyn : yn < n1) :
    Calls Tryd.prog 14 #[.pointer (some ⟨sb, 0, none⟩), .agg #[.slice p1 m1 c1, .slice p2 m2 c2, .slice (some ⟨tb, tq, none⟩) n3 tc], .int .i64 (k : Int)] w fun e w' => e = .returned (.tuple #[]) ∧ ∃ xt' xp', RSt w' w0.heap.size Bt sb n1 (s.put (.var x) (some (.var yn))) xv xt' xp' ∧ Below w0.heap.size w w' := by
  obtain ⟨g, cap, cs, rfl, hgB, hgt, hgs, hgb, hrow⟩ := h.vrow (by omega)
  have hBw := h.size
  have hgw : g < w.heap.size := (Array.getElem?_eq_some_iff.1 hgb).1
  have hsw : sb < w.heap.size := (Array.getElem?_eq_some_iff.1 h.blk).1
  obtain ⟨e0, e1⟩ := hrow x hx
  obtain ⟨W, hW⟩ : ∃ W, W = (w.alloc (.cells #[.slice p1 m1 c1, .slice p2 m2 c2, .slice (some ⟨tb, tq, none⟩) n3 tc] 26)).alloc (stmtBox ⟨#[97, 100, 100, 114]⟩ (x : Int) (yn : Int) (.slice aa na ac)) := ⟨_, rfl⟩
  have hBW : Below w.heap.size w W := by rw [hW]; exact (below1 w _).alloc (by simp) _
  have hbx : W.heap[w.heap.size + 1]? = some (stmtBox ⟨#[97, 100, 100, 114]⟩ (x : Int) (yn : Int) (.slice aa na ac)) := by
    rw [hW]
    have := heap_new (w.alloc (.cells #[.slice p1 m1 c1, .slice p2 m2 c2, .slice (some ⟨tb, tq, none⟩) n3 tc] 26)) (stmtBox ⟨#[97, 100, 100, 114]⟩ (x : Int) (yn : Int) (.slice aa na ac))
    simpa using this
  have s0 : W.cell? ⟨w.heap.size + 1, 0, none⟩ = some (.string ⟨#[97, 100, 100, 114]⟩) := by rw [Lib.cell_of_heap hbx]; rfl
  have s1 : W.cell? ⟨w.heap.size + 1, 1, none⟩ = some (.int .i64 (x : Int)) := by rw [Lib.cell_of_heap hbx]; rfl
  have s2 : W.cell? ⟨w.heap.size + 1, 2, none⟩ = some (.int .i64 (yn : Int)) := by rw [Lib.cell_of_heap hbx]; rfl
  have s3 : W.cell? ⟨w.heap.size + 1, 3, none⟩ = some (.slice aa na ac) := by rw [Lib.cell_of_heap hbx]; rfl
  have HS : Hid (RSt W w0.heap.size Bt sb n1 s (.slice (some ⟨g, 0, none⟩) n1 cap) xt xp) := h.below hBW
  obtain ⟨c0, d1, d2⟩ := HS.out.cells
  replace e0 := cell_keep hBW e0
  replace e1 := cell_keep hBW e1
  have fz := frozen_of_block (block_keep hBW hgb)
  have fz0 := fz (x * 2)
  have fz1 := fz (x * 2 + 1)
  have HG : Hid (w0.heap.size ≤ g ∧ Below w0.heap.size w W) := ⟨hgB, hBW.mono hBw⟩
  have n1' : sb ≠ g := fun q => hgs q.symm
  have n2' : w.heap.size + 1 ≠ g := by omega
  have q0' := fun o => cell_keep (below1 w o) q0
  have q1' := fun o => cell_keep (below1 w o) q1
  have q2' := fun o => cell_keep (below1 w o) q2
  have q3' := fun o => cell_keep (below1 w o) q3
  have hki : (k : Int) < n3 := by omega
  have hxi : (x : Int) < n1 := by omega
  clear h hrow hbx hgb fz hgw hsw hgt hgB hBw hgs
  go_enter Tryd.func14, Tryd.ntmps14
  go_upto_region 2 with fail
  rw [← hW]
  clear hW q0 q1 q2 q3 q0' q1' q2' q3'
  have HP : Hid (RSt (set2 W g x ⟨#[118, 97, 114]⟩ (yn : Int)) w0.heap.size Bt sb n1 (s.put (.var x) (some (.var yn))) (.slice (some ⟨g, 0, none⟩) n1 cap) xt xp) := HS.out.putV rfl hx (some (.var yn))
  go_upto_region 4 with fail
  go_region_held3 (fun wx => wx.cell? ⟨sb, 0, none⟩ = some (.slice (some ⟨g, 0, none⟩) n1 cap) ∧ wx.cell? ⟨w.heap.size + 1, 1, none⟩ = some (.int .i64 (x : Int)) ∧ wx.cell? ⟨w.heap.size + 1, 2, none⟩ = some (.int .i64 (yn : Int)))
    ((go_split_ands; first | exact ⟨c0, s1, s2⟩ | exact ⟨o2 c0 n1', o2 s1 n2', o2 s2 n2'⟩)) (fail)
  go_wp2_with fail
  refine bodyPost_end (results_none rfl _ _ _) rfl ?_
  exact ⟨rfl, _, _, HP.out.below (Below.refl _ _).drew, ((HG.out.2.setCell HG.out.1 _).setCell HG.out.1 _).drew⟩

set_option maxRecDepth 100000 in
set_option maxHeartbeats 8000000 in
theorem doR_fun {w0 w : World} {Bt sb n1 m1 m2 n3 c1 c2 tb tq tc na ac : Nat} {p1 p2 aa : Option Addr} {s : StD} {xv xt xp : Value} (h : RSt w w0.heap.size Bt sb n1 s xv xt xp) (k x yn : Nat) (hk : k < n3) (hx : x < n1)
    (q0 : w.cell? ⟨tb, tq + k * 4, none⟩ = some (.string ⟨#[102, 117, 110]⟩)) (q1 : w.cell? ⟨tb, tq + k * 4 + 1, none⟩ = some (.int .i64 (x : Int))) (q2 : w.cell? ⟨tb, tq + k * 4 + 2, none⟩ = some (.int .i64 (yn : Int))) (q3 : w.cell? ⟨tb, tq + k * 4 + 3, none⟩ = some (.slice aa na ac)) :
    Calls Tryd.prog 14 #[.pointer (some ⟨sb, 0, none⟩), .agg #[.slice p1 m1 c1, .slice p2 m2 c2, .slice (some ⟨tb, tq, none⟩) n3 tc], .int .i64 (k : Int)] w fun e w' => e = .returned (.tuple #[]) ∧ ∃ xt' xp', RSt w' w0.heap.size Bt sb n1 (s.put (.var x) (some (.fn yn))) xv xt' xp' ∧ Below w0.heap.size w w' := by
  obtain ⟨g, cap, cs, rfl, hgB, hgt, hgs, hgb, hrow⟩ := h.vrow (by omega)
  have hBw := h.size
  have hgw : g < w.heap.size := (Array.getElem?_eq_some_iff.1 hgb).1
  have hsw : sb < w.heap.size := (Array.getElem?_eq_some_iff.1 h.blk).1
  obtain ⟨e0, e1⟩ := hrow x hx
  obtain ⟨W, hW⟩ : ∃ W, W = (w.alloc (.cells #[.slice p1 m1 c1, .slice p2 m2 c2, .slice (some ⟨tb, tq, none⟩) n3 tc] 26)).alloc (stmtBox ⟨#[102, 117, 110]⟩ (x : Int) (yn : Int) (.slice aa na ac)) := ⟨_, rfl⟩
  have hBW : Below w.heap.size w W := by rw [hW]; exact (below1 w _).alloc (by simp) _
  have hbx : W.heap[w.heap.size + 1]? = some (stmtBox ⟨#[102, 117, 110]⟩ (x : Int) (yn : Int) (.slice aa na ac)) := by
    rw [hW]
    have := heap_new (w.alloc (.cells #[.slice p1 m1 c1, .slice p2 m2 c2, .slice (some ⟨tb, tq, none⟩) n3 tc] 26)) (stmtBox ⟨#[102, 117, 110]⟩ (x : Int) (yn : Int) (.slice aa na ac))
    simpa using this
  have s0 : W.cell? ⟨w.heap.size + 1, 0, none⟩ = some (.string ⟨#[102, 117, 110]⟩) := by rw [Lib.cell_of_heap hbx]; rfl
  have s1 : W.cell? ⟨w.heap.size + 1, 1, none⟩ = some (.int .i64 (x : Int)) := by rw [Lib.cell_of_heap hbx]; rfl
  have s2 : W.cell? ⟨w.heap.size + 1, 2, none⟩ = some (.int .i64 (yn : Int)) := by rw [Lib.cell_of_heap hbx]; rfl
  have s3 : W.cell? ⟨w.heap.size + 1, 3, none⟩ = some (.slice aa na ac) := by rw [Lib.cell_of_heap hbx]; rfl
  have HS : Hid (RSt W w0.heap.size Bt sb n1 s (.slice (some ⟨g, 0, none⟩) n1 cap) xt xp) := h.below hBW
  obtain ⟨c0, d1, d2⟩ := HS.out.cells
  replace e0 := cell_keep hBW e0
  replace e1 := cell_keep hBW e1
  have fz := frozen_of_block (block_keep hBW hgb)
  have fz0 := fz (x * 2)
  have fz1 := fz (x * 2 + 1)
  have HG : Hid (w0.heap.size ≤ g ∧ Below w0.heap.size w W) := ⟨hgB, hBW.mono hBw⟩
  have n1' : sb ≠ g := fun q => hgs q.symm
  have n2' : w.heap.size + 1 ≠ g := by omega
  have q0' := fun o => cell_keep (below1 w o) q0
  have q1' := fun o => cell_keep (below1 w o) q1
  have q2' := fun o => cell_keep (below1 w o) q2
  have q3' := fun o => cell_keep (below1 w o) q3
  have hki : (k : Int) < n3 := by omega
  have hxi : (x : Int) < n1 := by omega
  clear h hrow hbx hgb fz hgw hsw hgt hgB hBw hgs
  go_enter Tryd.func14, Tryd.ntmps14
  go_upto_region 2 with fail
  rw [← hW]
  clear hW q0 q1 q2 q3 q0' q1' q2' q3'
  have HP : Hid (RSt (set2 W g x ⟨#[102, 117, 110]⟩ (yn : Int)) w0.heap.size Bt sb n1 (s.put (.var x) (some (.fn yn))) (.slice (some ⟨g, 0, none⟩) n1 cap) xt xp) := HS.out.putV rfl hx (some (.fn yn))
  go_upto_region 22 with fail
  go_region_held3 (fun wx => wx.cell? ⟨sb, 0, none⟩ = some (.slice (some ⟨g, 0, none⟩) n1 cap) ∧ wx.cell? ⟨w.heap.size + 1, 1, none⟩ = some (.int .i64 (x : Int)) ∧ wx.cell? ⟨w.heap.size + 1, 2, none⟩ = some (.int .i64 (yn : Int)))
    ((go_split_ands; first | exact ⟨c0, s1, s2⟩ | exact ⟨o2 c0 n1', o2 s1 n2', o2 s2 n2'⟩)) (fail)
  go_wp2_with fail
  refine bodyPost_end (results_none rfl _ _ _) rfl ?_
  exact ⟨rfl, _, _, HP.out.below (Below.refl _ _).drew, ((HG.out.2.setCell HG.out.1 _).setCell HG.out.1 _).drew⟩

set_option maxRecDepth 100000 in
set_option maxHeartbeats 8000000 in
theorem doR_copy {w0 w : World} {Bt sb n1 m1 m2 n3 c1 c2 tb tq tc na ac : Nat} {p1 p2 aa : Option Addr} {s : StD} {xv xt xp : Value} (h : RSt w w0.heap.size Bt sb n1 s xv xt xp) (k x yn : Nat) (hk : k < n3) (hx : x < n1)
    (q0 : w.cell? ⟨tb, tq + k * 4, none⟩ = some (.string ⟨#[99, 111, 112, 121]⟩)) (q1 : w.cell? ⟨tb, tq + k * 4 + 1, none⟩ = some (.int .i64 (x : Int))) (q2 : w.cell? ⟨tb, tq + k * 4 + 2, none⟩ = some (.int .i64 (yn : Int))) (q3 : w.cell? ⟨tb, tq + k * 4 + 3, none⟩ = some (.slice aa na ac)) (hyn : yn < n1) :
    Calls Tryd.prog 14 #[.pointer (some ⟨sb, 0, none⟩), .agg #[.slice p1 m1 c1, .slice p2 m2 c2, .slice (some ⟨tb, tq, none⟩) n3 tc], .int .i64 (k : Int)] w fun e w' => e = .returned (.tuple #[]) ∧ ∃ xt' xp', RSt w' w0.heap.size Bt sb n1 (s.put (.var x) (s.get (.var yn))) xv xt' xp' ∧ Below w0.heap.size w w' := by
  obtain ⟨g, cap, cs, rfl, hgB, hgt, hgs, hgb, hrow⟩ := h.vrow (by omega)
  have hBw := h.size
  have hgw : g < w.heap.size := (Array.getElem?_eq_some_iff.1 hgb).1
  have hsw : sb < w.heap.size := (Array.getElem?_eq_some_iff.1 h.blk).1
  obtain ⟨e0, e1⟩ := hrow x hx
  obtain ⟨W, hW⟩ : ∃ W, W = (w.alloc (.cells #[.slice p1 m1 c1, .slice p2 m2 c2, .slice (some ⟨tb, tq, none⟩) n3 tc] 26)).alloc (stmtBox ⟨#[99, 111, 112, 121]⟩ (x : Int) (yn : Int) (.slice aa na ac)) := ⟨_, rfl⟩
  have hBW : Below w.heap.size w W := by rw [hW]; exact (below1 w _).alloc (by simp) _
  have hbx : W.heap[w.heap.size + 1]? = some (stmtBox ⟨#[99, 111, 112, 121]⟩ (x : Int) (yn : Int) (.slice aa na ac)) := by
    rw [hW]
    have := heap_new (w.alloc (.cells #[.slice p1 m1 c1, .slice p2 m2 c2, .slice (some ⟨tb, tq, none⟩) n3 tc] 26)) (stmtBox ⟨#[99, 111, 112, 121]⟩ (x : Int) (yn : Int) (.slice aa na ac))
    simpa using this
  have s0 : W.cell? ⟨w.heap.size + 1, 0, none⟩ = some (.string ⟨#[99, 111, 112, 121]⟩) := by rw [Lib.cell_of_heap hbx]; rfl
  have s1 : W.cell? ⟨w.heap.size + 1, 1, none⟩ = some (.int .i64 (x : Int)) := by rw [Lib.cell_of_heap hbx]; rfl
  have s2 : W.cell? ⟨w.heap.size + 1, 2, none⟩ = some (.int .i64 (yn : Int)) := by rw [Lib.cell_of_heap hbx]; rfl
  have s3 : W.cell? ⟨w.heap.size + 1, 3, none⟩ = some (.slice aa na ac) := by rw [Lib.cell_of_heap hbx]; rfl
  have HS : Hid (RSt W w0.heap.size Bt sb n1 s (.slice (some ⟨g, 0, none⟩) n1 cap) xt xp) := h.below hBW
  obtain ⟨c0, d1, d2⟩ := HS.out.cells
  replace e0 := cell_keep hBW e0
  replace e1 := cell_keep hBW e1
  have fz := frozen_of_block (block_keep hBW hgb)
  have fz0 := fz (x * 2)
  have fz1 := fz (x * 2 + 1)
  have HG : Hid (w0.heap.size ≤ g ∧ Below w0.heap.size w W) := ⟨hgB, hBW.mono hBw⟩
  have n1' : sb ≠ g := fun q => hgs q.symm
  have n2' : w.heap.size + 1 ≠ g := by omega
  have q0' := fun o => cell_keep (below1 w o) q0
  have q1' := fun o => cell_keep (below1 w o) q1
  have q2' := fun o => cell_keep (below1 w o) q2
  have q3' := fun o => cell_keep (below1 w o) q3
  have hki : (k : Int) < n3 := by omega
  have hxi : (x : Int) < n1 := by omega
  obtain ⟨d0, d1'⟩ := hrow yn hyn
  replace d0 := cell_keep hBW d0
  replace d1' := cell_keep hBW d1'
  obtain ⟨o, ho⟩ : ∃ o, o = s.vars.getD yn none := ⟨_, rfl⟩
  rw [← ho] at d0 d1'
  have HO : Hid (s.get (.var yn) = o) := ho.symm
  obtain ⟨Ky, hKy⟩ : ∃ K, K = valK o := ⟨_, rfl⟩
  obtain ⟨Ny, hNy⟩ : ∃ N, N = valN o := ⟨_, rfl⟩
  rw [← hKy] at d0
  rw [← hNy] at d1'
  have HKN : Hid (Ky = valK o ∧ Ny = valN o) := ⟨hKy, hNy⟩
  have hyi : (yn : Int) < n1 := by omega
  clear ho hKy hNy
  clear h hrow hbx hgb fz hgw hsw hgt hgB hBw hgs
  go_enter Tryd.func14, Tryd.ntmps14
  go_upto_region 2 with fail
  rw [← hW]
  clear hW q0 q1 q2 q3 q0' q1' q2' q3'
  have HP : Hid (RSt (set2 W g x Ky Ny) w0.heap.size Bt sb n1 (s.put (.var x) (s.get (.var yn))) (.slice (some ⟨g, 0, none⟩) n1 cap) xt xp) := by
    show RSt _ _ _ _ _ _ _ _ _
    rw [HO.out, HKN.out.1, HKN.out.2]; exact HS.out.putV rfl hx o
  go_upto_region 6 with fail
  go_region_held3 (fun wx => wx.cell? ⟨sb, 0, none⟩ = some (.slice (some ⟨g, 0, none⟩) n1 cap) ∧ wx.cell? ⟨w.heap.size + 1, 1, none⟩ = some (.int .i64 (x : Int)) ∧ wx.cell? ⟨w.heap.size + 1, 2, none⟩ = some (.int .i64 (yn : Int)) ∧ wx.cell? ⟨g, yn * 2, none⟩ = some (.string Ky) ∧ wx.cell? ⟨g, yn * 2 + 1, none⟩ = some (.int .i64 Ny))
    ((go_split_ands; first | exact ⟨c0, s1, s2, d0, d1'⟩ | exact ⟨o2 c0 n1', o2 s1 n2', o2 s2 n2', o2k d0, o2n d1'⟩)) (fail)
  go_wp2_with fail
  refine bodyPost_end (results_none rfl _ _ _) rfl ?_
  exact ⟨rfl, _, _, HP.out.below (Below.refl _ _).drew, ((HG.out.2.setCell HG.out.1 _).setCell HG.out.1 _).drew⟩
end Go.Proofs.YtdbcjeccmjpbiabDoor

/-
  The document's (*State).Do, kind by kind: things, stores.
-/
namespace Go.Proofs.YtdbcjeccmjpbiabDoor
open Go.RowKit Go.Extern.Stop Go.Stop Go.Extern

set_option maxRecDepth 100000 in
set_option maxHeartbeats 8000000 in
theorem doR_new {w0 w : World} {Bt sb n1 m1 m2 n3 c1 c2 tb tq tc na ac : Nat} {p1 p2 aa : Option Addr} {s : StD} {xv xt xp : Value} (h : RSt w w0.heap.size Bt sb n1 s xv xt xp) (k x yn : Nat) (hk : k < n3) (hx : x < n1)
    (q0 : w.cell? ⟨tb, tq + k * 4, none⟩ = some (.string ⟨#[110, 101, 119]⟩)) (q1 : w.cell? ⟨tb, tq + k * 4 + 1, none⟩ = some (.int .i64 (x : Int))) (q2 : w.cell? ⟨tb, tq + k * 4 + 2, none⟩ = some (.int .i64 (yn : Int))) (q3 : w.cell? ⟨tb, tq + k * 4 + 3, none⟩ = some (.slice aa na ac)) (hth : s.things.length ≤ 1000000) :
    Calls Tryd.prog 14 #[.pointer (some ⟨sb, 0, none⟩), .agg #[.slice p1 m1 c1, .slice p2 m2 c2, .slice (some ⟨tb, tq, none⟩) n3 tc], .int .i64 (k : Int)] w fun e w' => e = .returned (.tuple #[]) ∧ ∃ xt' xp', RSt w' w0.heap.size Bt sb n1 ((addT s k).put (.var x) (some (.thing s.things.length))) xv xt' xp' ∧ Below w0.heap.size w w' := by
  obtain ⟨g, cap, cs, rfl, hgB, hgt, hgs, hgb, hrow⟩ := h.vrow (by omega)
  have hBw := h.size
  have hgw : g < w.heap.size := (Array.getElem?_eq_some_iff.1 hgb).1
  have hsw : sb < w.heap.size := (Array.getElem?_eq_some_iff.1 h.blk).1
  obtain ⟨e0, e1⟩ := hrow x hx
  obtain ⟨W, hW⟩ : ∃ W, W = (w.alloc (.cells #[.slice p1 m1 c1, .slice p2 m2 c2, .slice (some ⟨tb, tq, none⟩) n3 tc] 26)).alloc (stmtBox ⟨#[110, 101, 119]⟩ (x : Int) (yn : Int) (.slice aa na ac)) := ⟨_, rfl⟩
  have hBW : Below w.heap.size w W := by rw [hW]; exact (below1 w _).alloc (by simp) _
  have hbx : W.heap[w.heap.size + 1]? = some (stmtBox ⟨#[110, 101, 119]⟩ (x : Int) (yn : Int) (.slice aa na ac)) := by
    rw [hW]
    have := heap_new (w.alloc (.cells #[.slice p1 m1 c1, .slice p2 m2 c2, .slice (some ⟨tb, tq, none⟩) n3 tc] 26)) (stmtBox ⟨#[110, 101, 119]⟩ (x : Int) (yn : Int) (.slice aa na ac))
    simpa using this
  have s0 : W.cell? ⟨w.heap.size + 1, 0, none⟩ = some (.string ⟨#[110, 101, 119]⟩) := by rw [Lib.cell_of_heap hbx]; rfl
  have s1 : W.cell? ⟨w.heap.size + 1, 1, none⟩ = some (.int .i64 (x : Int)) := by rw [Lib.cell_of_heap hbx]; rfl
  have s2 : W.cell? ⟨w.heap.size + 1, 2, none⟩ = some (.int .i64 (yn : Int)) := by rw [Lib.cell_of_heap hbx]; rfl
  have s3 : W.cell? ⟨w.heap.size + 1, 3, none⟩ = some (.slice aa na ac) := by rw [Lib.cell_of_heap hbx]; rfl
  have HS : Hid (RSt W w0.heap.size Bt sb n1 s (.slice (some ⟨g, 0, none⟩) n1 cap) xt xp) := h.below hBW
  obtain ⟨c0, d1, d2⟩ := HS.out.cells
  replace e0 := cell_keep hBW e0
  replace e1 := cell_keep hBW e1
  have fz := frozen_of_block (block_keep hBW hgb)
  have fz0 := fz (x * 2)
  have fz1 := fz (x * 2 + 1)
  have HG : Hid (w0.heap.size ≤ g ∧ Below w0.heap.size w W) := ⟨hgB, hBW.mono hBw⟩
  have n1' : sb ≠ g := fun q => hgs q.symm
  have n2' : w.heap.size + 1 ≠ g := by omega
  have q0' := fun o => cell_keep (below1 w o) q0
  have q1' := fun o => cell_keep (below1 w o) q1
  have q2' := fun o => cell_keep (below1 w o) q2
  have q3' := fun o => cell_keep (below1 w o) q3
  have hki : (k : Int) < n3 := by omega
  have hxi : (x : Int) < n1 := by omega
  obtain ⟨ta, tcap, rfl⟩ := owns_form HS.out.rt
  obtain ⟨nt, hnt⟩ : ∃ n, n = s.things.length := ⟨_, rfl⟩
  have HNT : Hid (nt = s.things.length) := hnt
  rw [← hnt] at d1
  have hnt5 : nt ≤ 1000000 := by omega
  clear h hrow hbx hgb fz hgw hsw hgt hgB hBw hgs
  go_enter Tryd.func14, Tryd.ntmps14
  go_upto_region 2 with fail
  rw [← hW]
  clear hW q0 q1 q2 q3 q0' q1' q2' q3'
  rw [← hnt] at HS
  clear hth
  have HP : Hid (RSt (set2 W g x ⟨#[116, 104, 105, 110, 103]⟩ (nt : Int)) w0.heap.size Bt sb n1 (s.put (.var x) (some (.thing nt))) (.slice (some ⟨g, 0, none⟩) n1 cap) (.slice ta nt tcap) xp) := HS.out.putV rfl hx (some (.thing nt))
  clear hnt
  go_upto_region 18 with fail
  go_region_held3 (fun wx => wx.cell? ⟨sb, 0, none⟩ = some (.slice (some ⟨g, 0, none⟩) n1 cap) ∧ wx.cell? ⟨w.heap.size + 1, 1, none⟩ = some (.int .i64 (x : Int)) ∧ wx.cell? ⟨sb, 1, none⟩ = some (.slice ta nt tcap))
    ((go_split_ands; first | exact ⟨c0, s1, d1⟩ | exact ⟨o2 c0 n1', o2 s1 n2', o2 d1 n1'⟩)) (fail)
  obtain ⟨W3, hW3⟩ : ∃ W3, W3 = (set2 W g x ⟨#[116, 104, 105, 110, 103]⟩ (nt : Int)).drew := ⟨_, rfl⟩
  have HS3 : Hid (RSt W3 w0.heap.size Bt sb n1 (s.put (.var x) (some (.thing nt))) (.slice (some ⟨g, 0, none⟩) n1 cap) (.slice ta nt tcap) xp) := by
    show RSt _ _ _ _ _ _ _ _ _
    rw [hW3]; exact HP.out.below (Below.refl _ _).drew
  have HB3 : Hid (Below w0.heap.size w W3) := by
    show Below _ _ _
    rw [hW3]; exact ((HG.out.2.setCell HG.out.1 _).setCell HG.out.1 _).drew
  rw [← hW3]
  clear hW3 HP c0 d1 d2 e0 e1 s0 s1 s2 s3 fz0 fz1
  obtain ⟨v', w2, hr, g0, g1, ⟨ya, yn', yc, rfl⟩, v2', w3, hr3, g2, g3, g4, ⟨za, zn, zc, rfl⟩, hfin, hbf⟩ := HS3.out.addT (k : Int) (by show s.things.length ≤ _; rw [← HNT.out]; exact hnt5)
  obtain ⟨pa, pc, rfl⟩ := owns_form HS3.out.rp
  obtain ⟨-, d1, d2⟩ := HS3.out.cells
  have HR1 : Hid ((Builtin.append_ #[53, 53] 53 #[.slice ta nt tcap, .slice (some ⟨W3.heap.size, 0, none⟩) 1 1]).run Tryd.prog (W3.alloc (.cells #[.string ⟨#[110, 111, 110, 101]⟩, .int .i64 0] TRV)) = .ok (.slice ya yn' yc) w2) := hr
  have HF : Hid (RSt (w3.setCell ⟨sb, 2, none⟩ (.slice za zn zc)) w0.heap.size Bt sb n1 (addT (s.put (.var x) (some (.thing nt))) (k : Int)) (.slice (some ⟨g, 0, none⟩) n1 cap) (.slice ya yn' yc) (.slice za zn zc) ∧ Below w0.heap.size w (w3.setCell ⟨sb, 2, none⟩ (.slice za zn zc))) := ⟨hfin, HB3.out.trans hbf⟩
  have hsw2 : (w2.setCell ⟨sb, 1, none⟩ (.slice ya yn' yc)).heap.size = w2.heap.size := by simp
  rw [hsw2] at hr3
  have HR2 : Hid _ := hr3
  clear hr hr3 hfin hbf hsw2
  go_wp2_with (at_builtin; first | refine Lib.wpList_append_run _ rfl _ _ _ _ rfl _ _ rfl rfl _ _ HR1.out ?_ | refine Lib.wpList_append_run _ rfl _ _ _ _ rfl _ _ rfl rfl _ _ HR2.out ?_)
  refine bodyPost_end (results_none rfl _ _ _) rfl ?_
  exact ⟨rfl, _, _, by rw [← HNT.out]; exact HF.out.1, HF.out.2⟩
end Go.Proofs.YtdbcjeccmjpbiabDoor

/-
  The document's (*State).Do, kind by kind: stores.
-/
namespace Go.Proofs.YtdbcjeccmjpbiabDoor
open Go.RowKit Go.Extern.Stop Go.Stop Go.Extern

set_option maxRecDepth 100000 in
set_option maxHeartbeats 8000000 in
theorem doR_store {w0 w : World} {Bt sb n1 m1 m2 n3 c1 c2 tb tq tc na ac : Nat} {p1 p2 aa : Option Addr} {s : StD} {xv xt xp : Value} (h : RSt w w0.heap.size Bt sb n1 s xv xt xp) (k x yn : Nat) (hk : k < n3) (hx : x < n1)
    (q0 : w.cell? ⟨tb, tq + k * 4, none⟩ = some (.string ⟨#[115, 116, 111, 114, 101]⟩)) (q1 : w.cell? ⟨tb, tq + k * 4 + 1, none⟩ = some (.int .i64 (x : Int))) (q2 : w.cell? ⟨tb, tq + k * 4 + 2, none⟩ = some (.int .i64 (yn : Int))) (q3 : w.cell? ⟨tb, tq + k * 4 + 3, none⟩ = some (.slice aa na ac)) (hyn : yn < n1) {n2 : Nat} (hok : OkO n1 n2 s.things.length (s.get (.var x))) :
    Calls Tryd.prog 14 #[.pointer (some ⟨sb, 0, none⟩), .agg #[.slice p1 m1 c1, .slice p2 m2 c2, .slice (some ⟨tb, tq, none⟩) n3 tc], .int .i64 (k : Int)] w fun e w' => e = .returned (.tuple #[]) ∧ ∃ xt' xp', RSt w' w0.heap.size Bt sb n1 (storeD s (s.get (.var yn)) (s.get (.var x))) xv xt' xp' ∧ Below w0.heap.size w w' := by
  obtain ⟨g, cap, cs, rfl, hgB, hgt, hgs, hgb, hrow⟩ := h.vrow (by omega)
  have hBw := h.size
  have hgw : g < w.heap.size := (Array.getElem?_eq_some_iff.1 hgb).1
  have hsw : sb < w.heap.size := (Array.getElem?_eq_some_iff.1 h.blk).1
  obtain ⟨e0, e1⟩ := hrow x hx
  obtain ⟨W, hW⟩ : ∃ W, W = (w.alloc (.cells #[.slice p1 m1 c1, .slice p2 m2 c2, .slice (some ⟨tb, tq, none⟩) n3 tc] 26)).alloc (stmtBox ⟨#[115, 116, 111, 114, 101]⟩ (x : Int) (yn : Int) (.slice aa na ac)) := ⟨_, rfl⟩
  have hBW : Below w.heap.size w W := by rw [hW]; exact (below1 w _).alloc (by simp) _
  have hbx : W.heap[w.heap.size + 1]? = some (stmtBox ⟨#[115, 116, 111, 114, 101]⟩ (x : Int) (yn : Int) (.slice aa na ac)) := by
    rw [hW]
    have := heap_new (w.alloc (.cells #[.slice p1 m1 c1, .slice p2 m2 c2, .slice (some ⟨tb, tq, none⟩) n3 tc] 26)) (stmtBox ⟨#[115, 116, 111, 114, 101]⟩ (x : Int) (yn : Int) (.slice aa na ac))
    simpa using this
  have s0 : W.cell? ⟨w.heap.size + 1, 0, none⟩ = some (.string ⟨#[115, 116, 111, 114, 101]⟩) := by rw [Lib.cell_of_heap hbx]; rfl
  have s1 : W.cell? ⟨w.heap.size + 1, 1, none⟩ = some (.int .i64 (x : Int)) := by rw [Lib.cell_of_heap hbx]; rfl
  have s2 : W.cell? ⟨w.heap.size + 1, 2, none⟩ = some (.int .i64 (yn : Int)) := by rw [Lib.cell_of_heap hbx]; rfl
  have s3 : W.cell? ⟨w.heap.size + 1, 3, none⟩ = some (.slice aa na ac) := by rw [Lib.cell_of_heap hbx]; rfl
  have HS : Hid (RSt W w0.heap.size Bt sb n1 s (.slice (some ⟨g, 0, none⟩) n1 cap) xt xp) := h.below hBW
  obtain ⟨c0, d1, d2⟩ := HS.out.cells
  replace e0 := cell_keep hBW e0
  replace e1 := cell_keep hBW e1
  have fz := frozen_of_block (block_keep hBW hgb)
  have fz0 := fz (x * 2)
  have fz1 := fz (x * 2 + 1)
  have HG : Hid (w0.heap.size ≤ g ∧ Below w0.heap.size w W) := ⟨hgB, hBW.mono hBw⟩
  have n1' : sb ≠ g := fun q => hgs q.symm
  have n2' : w.heap.size + 1 ≠ g := by omega
  have q0' := fun o => cell_keep (below1 w o) q0
  have q1' := fun o => cell_keep (below1 w o) q1
  have q2' := fun o => cell_keep (below1 w o) q2
  have q3' := fun o => cell_keep (below1 w o) q3
  have hki : (k : Int) < n3 := by omega
  have hxi : (x : Int) < n1 := by omega
  obtain ⟨d0, d1'⟩ := hrow yn hyn
  replace d0 := cell_keep hBW d0
  replace d1' := cell_keep hBW d1'
  obtain ⟨o, ho⟩ : ∃ o, o = s.vars.getD yn none := ⟨_, rfl⟩
  rw [← ho] at d0 d1'
  have HO : Hid (s.get (.var yn) = o) := ho.symm
  obtain ⟨Ky, hKy⟩ : ∃ K, K = valK o := ⟨_, rfl⟩
  obtain ⟨Ny, hNy⟩ : ∃ N, N = valN o := ⟨_, rfl⟩
  rw [← hKy] at d0
  rw [← hNy] at d1'
  have HKN : Hid (Ky = valK o ∧ Ny = valN o) := ⟨hKy, hNy⟩
  have hyi : (yn : Int) < n1 := by omega
  clear ho hKy hNy
  obtain ⟨ox, hox⟩ : ∃ o, o = s.vars.getD x none := ⟨_, rfl⟩
  rw [← hox] at e0 e1
  have HOX : Hid (s.get (.var x) = ox ∧ OkO n1 n2 s.things.length ox) := ⟨hox.symm, by rw [hox]; exact hok⟩
  obtain ⟨Kx, hKx⟩ : ∃ K, K = valK ox := ⟨_, rfl⟩
  obtain ⟨Nx, hNx⟩ : ∃ N, N = valN ox := ⟨_, rfl⟩
  rw [← hKx] at e0
  rw [← hNx] at e1
  have HKX : Hid (Kx = valK ox ∧ Nx = valN ox) := ⟨hKx, hNx⟩
  have HGB : Hid (w.heap[g]? = some (.cells cs TRV (0, 0)) ∧ g < Bt ∧ g ≠ sb) := ⟨hgb, hgt, hgs⟩
  clear hox hKx hNx
  have HG3 : Hid (w0.heap.size ≤ W.heap.size) := Nat.le_trans hBw hBW.size
  have n3' : W.heap.size ≠ g := by have := hBW.size; omega
  have HBX : Hid (W.heap[w.heap.size + 1]? = some (stmtBox ⟨#[115, 116, 111, 114, 101]⟩ (x : Int) (yn : Int) (.slice aa na ac))) := hbx
  have HGW : Hid (∀ wx, Below W.heap.size W wx → wx.heap[g]? = some (.cells cs TRV (0, 0))) := fun wx hb => block_keep hb (block_keep hBW hgb)
  clear h hrow hbx hgb fz hgw hsw hgt hgB hBw hgs
  go_enter Tryd.func14, Tryd.ntmps14
  go_upto_region 2 with fail
  rw [← hW]
  clear hW q0 q1 q2 q3 q0' q1' q2' q3'
  go_upto_region 12 with fail
  go_region_held3 (fun wx => wx.cell? ⟨sb, 0, none⟩ = some (.slice (some ⟨g, 0, none⟩) n1 cap) ∧ wx.cell? ⟨w.heap.size + 1, 1, none⟩ = some (.int .i64 (x : Int)) ∧ wx.cell? ⟨g, x * 2, none⟩ = some (.string Kx) ∧ wx.cell? ⟨g, x * 2 + 1, none⟩ = some (.int .i64 Nx))
    ((go_split_ands; first | exact ⟨c0, s1, e0, e1⟩ | exact ⟨cell_keep (below1 _ _) c0, cell_keep (below1 _ _) s1, cell_keep (below1 _ _) e0, cell_keep (below1 _ _) e1⟩)) (fail)
  obtain ⟨W3, hW3⟩ : ∃ W3, W3 = (W.alloc (valBox Kx Nx)).drew := ⟨_, rfl⟩
  have hb3 : Below W.heap.size W W3 := by rw [hW3]; exact (below1 W _).drew
  have hvb : W3.heap[W.heap.size]? = some (valBox Kx Nx) := by rw [hW3]; exact heap_new W _
  have v0 : W3.cell? ⟨W.heap.size, 0, none⟩ = some (.string Kx) := by rw [Lib.cell_of_heap hvb]; rfl
  have v1 : W3.cell? ⟨W.heap.size, 1, none⟩ = some (.int .i64 Nx) := by rw [Lib.cell_of_heap hvb]; rfl
  have HS3 : Hid (RSt W3 w0.heap.size Bt sb n1 s (.slice (some ⟨g, 0, none⟩) n1 cap) xt xp) := HS.out.below hb3
  have HB3 : Hid (Below w0.heap.size w W3) := HG.out.2.trans (hb3.mono HG3.out)
  rw [← hW3]
  clear hW3 hvb e0 e1 fz0 fz1 s0 s1 s3 d1 d2
  replace c0 := cell_keep hb3 c0
  replace s2 := cell_keep hb3 s2
  replace d0 := cell_keep hb3 d0
  replace d1' := cell_keep hb3 d1'
  cases hoc : ox with
  | none =>
    have hK : Kx = ⟨#[110, 111, 110, 101]⟩ := by rw [HKX.out.1, hoc]; rfl
    subst hK
    have HR : Hid (storeD s (s.get (.var yn)) (s.get (.var x)) = s) := by show _ = _; rw [HOX.out.1, hoc]; rfl
    clear hoc
    go_wp2_with fail
    refine bodyPost_end (results_none rfl _ _ _) rfl ?_
    exact ⟨rfl, _, _, by rw [HR.out]; exact HS3.out, HB3.out⟩
  | some r =>
    have hro := HOX.out.2 r hoc
    cases r using ref_cases with
    | fn i =>
      have hK : Kx = ⟨#[102, 117, 110]⟩ := by rw [HKX.out.1, hoc]; rfl
      subst hK
      have HR : Hid (storeD s (s.get (.var yn)) (s.get (.var x)) = s) := by show _ = _; rw [HOX.out.1, hoc]; rfl
      clear hoc
      go_wp2_with fail
      refine bodyPost_end (results_none rfl _ _ _) rfl ?_
      exact ⟨rfl, _, _, by rw [HR.out]; exact HS3.out, HB3.out⟩
    | var i =>
      have hi : i < n1 := hro
      have hK : Kx = ⟨#[118, 97, 114]⟩ := by rw [HKX.out.1, hoc]; rfl
      have hN : Nx = (i : Int) := by rw [HKX.out.2, hoc]; rfl
      subst hK hN
      have HR : Hid (storeD s (s.get (.var yn)) (s.get (.var x)) = s.put (.var i) o) := by show _ = _; rw [HOX.out.1, hoc, HO.out]; rfl
      clear hoc hro
      obtain ⟨g', cap', cs', hv', -, -, -, -, hrow3⟩ := HS3.out.vrow (by omega)
      cases hv'
      obtain ⟨e0, e1⟩ := hrow3 i hi
      have fz0 := frozen_of_block (HGW.out W3 hb3) (i * 2)
      have fz1 := frozen_of_block (HGW.out W3 hb3) (i * 2 + 1)
      have hii : (i : Int) < n1 := by omega
      have HP : Hid (RSt (set2 W3 g i Ky Ny) w0.heap.size Bt sb n1 (s.put (.var i) o) (.slice (some ⟨g, 0, none⟩) n1 cap) xt xp) := by
        show RSt _ _ _ _ _ _ _ _ _
        rw [HKN.out.1, HKN.out.2]; exact HS3.out.putV rfl hi o
      clear hrow3 hb3
      go_upto_region 14 with fail
      go_region_held3 (fun wx => wx.cell? ⟨sb, 0, none⟩ = some (.slice (some ⟨g, 0, none⟩) n1 cap) ∧ wx.cell? ⟨W.heap.size, 1, none⟩ = some (.int .i64 (i : Int)) ∧ wx.cell? ⟨w.heap.size + 1, 2, none⟩ = some (.int .i64 (yn : Int)) ∧ wx.cell? ⟨g, yn * 2, none⟩ = some (.string Ky) ∧ wx.cell? ⟨g, yn * 2 + 1, none⟩ = some (.int .i64 Ny))
        ((go_split_ands; first | exact ⟨c0, v1, s2, d0, d1'⟩ | exact ⟨o2 c0 n1', o2 v1 n3', o2 s2 n2', o2k d0, o2n d1'⟩)) (fail)
      have v0' : ((set2 W3 g i Ky Ny).drew).cell? ⟨W.heap.size, 0, none⟩ = some (.string ⟨#[118, 97, 114]⟩) := o2 v0 n3'
      clear c0 v0 v1 s2 d0 d1' e0 e1
      go_wp2_with fail
      refine bodyPost_end (results_none rfl _ _ _) rfl ?_
      exact ⟨rfl, _, _, by rw [HR.out]; exact HP.out.below (Below.refl _ _).drew, ((HB3.out.setCell HG.out.1 _).setCell HG.out.1 _).drew⟩
    | thing i =>
      have hi : i < s.things.length := hro
      have hK : Kx = ⟨#[116, 104, 105, 110, 103]⟩ := by rw [HKX.out.1, hoc]; rfl
      have hN : Nx = (i : Int) := by rw [HKX.out.2, hoc]; rfl
      subst hK hN
      have HR : Hid (storeD s (s.get (.var yn)) (s.get (.var x)) = s.put (.thing i) o) := by show _ = _; rw [HOX.out.1, hoc, HO.out]; rfl
      clear hoc hro
      obtain ⟨gt, tcap, cst, rfl, hgtB, hgts, hgtb, hrow3⟩ := HS.out.trow (by omega)
      obtain ⟨e0, e1⟩ := hrow3 i hi
      replace e0 := cell_keep hb3 e0
      replace e1 := cell_keep hb3 e1
      have hgt3 := block_keep hb3 hgtb
      have fz0 := frozen_of_block hgt3 (i * 2)
      have fz1 := frozen_of_block hgt3 (i * 2 + 1)
      obtain ⟨-, t1, -⟩ := HS3.out.cells
      obtain ⟨nt, hnt⟩ : ∃ n, n = s.things.length := ⟨_, rfl⟩
      rw [← hnt] at t1
      have hgW : gt < W.heap.size := (Array.getElem?_eq_some_iff.1 hgtb).1
      have hnn : g ≠ gt := by have := HGB.out.2.1; omega
      have hii : (i : Int) < nt := by omega
      have m1' : sb ≠ gt := fun q => hgts q.symm
      have m2' : w.heap.size + 1 ≠ gt := ne_block HBX.out hgtb (by decide)
      have m3' : W.heap.size ≠ gt := by omega
      have HP : Hid (RSt (set2 W3 gt i Ky Ny) w0.heap.size Bt sb n1 (s.put (.thing i) o) (.slice (some ⟨g, 0, none⟩) n1 cap) (.slice (some ⟨gt, 0, none⟩) s.things.length tcap) xp) := by
        show RSt _ _ _ _ _ _ _ _ _
        rw [HKN.out.1, HKN.out.2]; exact HS3.out.putT rfl hi o
      have HGL : Hid (w0.heap.size ≤ gt) := Nat.le_trans HS.out.hBt hgtB
      rw [← hnt] at HP
      clear hrow3 hb3 hgtb hgt3 hnt hgtB hgts hgW HS3 HS
      go_upto_region 16 with fail
      go_region_held3 (fun wx => wx.cell? ⟨sb, 1, none⟩ = some (.slice (some ⟨gt, 0, none⟩) nt tcap) ∧ wx.cell? ⟨W.heap.size, 1, none⟩ = some (.int .i64 (i : Int)) ∧ wx.cell? ⟨sb, 0, none⟩ = some (.slice (some ⟨g, 0, none⟩) n1 cap) ∧ wx.cell? ⟨w.heap.size + 1, 2, none⟩ = some (.int .i64 (yn : Int)) ∧ wx.cell? ⟨g, yn * 2, none⟩ = some (.string Ky) ∧ wx.cell? ⟨g, yn * 2 + 1, none⟩ = some (.int .i64 Ny))
        ((go_split_ands; first | exact ⟨t1, v1, c0, s2, d0, d1'⟩ | exact ⟨o2 t1 m1', o2 v1 m3', o2 c0 m1', o2 s2 m2', o2 d0 hnn, o2 d1' hnn⟩)) (fail)
      go_wp2_with fail
      refine bodyPost_end (results_none rfl _ _ _) rfl ?_
      exact ⟨rfl, _, _, by rw [HR.out]; exact HP.out.below (Below.refl _ _).drew, ((HB3.out.setCell HGL.out _).setCell HGL.out _).drew⟩
end Go.Proofs.YtdbcjeccmjpbiabDoor

/-
  The document's (*State).Do, kind by kind: loads.
-/
namespace Go.Proofs.YtdbcjeccmjpbiabDoor
open Go.RowKit Go.Extern.Stop Go.Stop Go.Extern

theorem keepL {w0 w : World} {p0 p1 p2 p3 : Addr} {v0 v1 v2 v3 : Value} (k0 : w0.cell? p0 = some v0) (k1 : w0.cell? p1 = some v1) (k2 : w0.cell? p2 = some v2) (k3 : w0.cell? p3 = some v3) (hb : Below w0.heap.size w0 w) : Below w0.heap.size w0 w ∧ w.cell? p0 = some v0 ∧ w.cell? p1 = some v1 ∧ w.cell? p2 = some v2 ∧ w.cell? p3 = some v3 :=
  ⟨hb, cell_keep hb k0, cell_keep hb k1, cell_keep hb k2, cell_keep hb k3⟩
theorem val_new0 (w : World) (K : ByteArray) (N : Int) : (w.alloc (valBox K N)).cell? ⟨w.heap.size, 0, none⟩ = some (.string K) := by simp
theorem val_new1 (w : World) (K : ByteArray) (N : Int) : (w.alloc (valBox K N)).cell? ⟨w.heap.size, 1, none⟩ = some (.int .i64 N) := by simp

set_option maxRecDepth 100000 in
set_option maxHeartbeats 8000000 in
theorem doR_load {w0 w : World} {Bt sb n1 m1 m2 n3 c1 c2 tb tq tc na ac : Nat} {p1 p2 aa : Option Addr} {s : StD} {xv xt xp : Value} (h : RSt w w0.heap.size Bt sb n1 s xv xt xp) (k x yn : Nat) (hk : k < n3) (hx : x < n1)
    (q0 : w.cell? ⟨tb, tq + k * 4, none⟩ = some (.string ⟨#[108, 111, 97, 100]⟩)) (q1 : w.cell? ⟨tb, tq + k * 4 + 1, none⟩ = some (.int .i64 (x : Int))) (q2 : w.cell? ⟨tb, tq + k * 4 + 2, none⟩ = some (.int .i64 (yn : Int))) (q3 : w.cell? ⟨tb, tq + k * 4 + 3, none⟩ = some (.slice aa na ac)) (hyn : yn < n1) {n2 : Nat} (hok : OkO n1 n2 s.things.length (s.get (.var yn))) :
    Calls Tryd.prog 14 #[.pointer (some ⟨sb, 0, none⟩), .agg #[.slice p1 m1 c1, .slice p2 m2 c2, .slice (some ⟨tb, tq, none⟩) n3 tc], .int .i64 (k : Int)] w fun e w' => e = .returned (.tuple #[]) ∧ ∃ xt' xp', RSt w' w0.heap.size Bt sb n1 (loadD s x (s.get (.var yn))) xv xt' xp' ∧ Below w0.heap.size w w' := by
  obtain ⟨g, cap, cs, rfl, hgB, hgt, hgs, hgb, hrow⟩ := h.vrow (by omega)
  have hBw := h.size
  have hgw : g < w.heap.size := (Array.getElem?_eq_some_iff.1 hgb).1
  have hsw : sb < w.heap.size := (Array.getElem?_eq_some_iff.1 h.blk).1
  obtain ⟨e0, e1⟩ := hrow x hx
  obtain ⟨W, hW⟩ : ∃ W, W = (w.alloc (.cells #[.slice p1 m1 c1, .slice p2 m2 c2, .slice (some ⟨tb, tq, none⟩) n3 tc] 26)).alloc (stmtBox ⟨#[108, 111, 97, 100]⟩ (x : Int) (yn : Int) (.slice aa na ac)) := ⟨_, rfl⟩
  have hBW : Below w.heap.size w W := by rw [hW]; exact (below1 w _).alloc (by simp) _
  have hbx : W.heap[w.heap.size + 1]? = some (stmtBox ⟨#[108, 111, 97, 100]⟩ (x : Int) (yn : Int) (.slice aa na ac)) := by
    rw [hW]
    have := heap_new (w.alloc (.cells #[.slice p1 m1 c1, .slice p2 m2 c2, .slice (some ⟨tb, tq, none⟩) n3 tc] 26)) (stmtBox ⟨#[108, 111, 97, 100]⟩ (x : Int) (yn : Int) (.slice aa na ac))
    simpa using this
  have s0 : W.cell? ⟨w.heap.size + 1, 0, none⟩ = some (.string ⟨#[108, 111, 97, 100]⟩) := by rw [Lib.cell_of_heap hbx]; rfl
  have s1 : W.cell? ⟨w.heap.size + 1, 1, none⟩ = some (.int .i64 (x : Int)) := by rw [Lib.cell_of_heap hbx]; rfl
  have s2 : W.cell? ⟨w.heap.size + 1, 2, none⟩ = some (.int .i64 (yn : Int)) := by rw [Lib.cell_of_heap hbx]; rfl
  have s3 : W.cell? ⟨w.heap.size + 1, 3, none⟩ = some (.slice aa na ac) := by rw [Lib.cell_of_heap hbx]; rfl
  have HS : Hid (RSt W w0.heap.size Bt sb n1 s (.slice (some ⟨g, 0, none⟩) n1 cap) xt xp) := h.below hBW
  obtain ⟨c0, d1, d2⟩ := HS.out.cells
  replace e0 := cell_keep hBW e0
  replace e1 := cell_keep hBW e1
  have fz := frozen_of_block (block_keep hBW hgb)
  have fz0 := fz (x * 2)
  have fz1 := fz (x * 2 + 1)
  have HG : Hid (w0.heap.size ≤ g ∧ Below w0.heap.size w W) := ⟨hgB, hBW.mono hBw⟩
  have n1' : sb ≠ g := fun q => hgs q.symm
  have n2' : w.heap.size + 1 ≠ g := by omega
  have q0' := fun o => cell_keep (below1 w o) q0
  have q1' := fun o => cell_keep (below1 w o) q1
  have q2' := fun o => cell_keep (below1 w o) q2
  have q3' := fun o => cell_keep (below1 w o) q3
  have hki : (k : Int) < n3 := by omega
  have hxi : (x : Int) < n1 := by omega
  obtain ⟨d0, d1'⟩ := hrow yn hyn
  replace d0 := cell_keep hBW d0
  replace d1' := cell_keep hBW d1'
  obtain ⟨o, ho⟩ : ∃ o, o = s.vars.getD yn none := ⟨_, rfl⟩
  rw [← ho] at d0 d1'
  have HO : Hid (s.get (.var yn) = o) := ho.symm
  obtain ⟨Ky, hKy⟩ : ∃ K, K = valK o := ⟨_, rfl⟩
  obtain ⟨Ny, hNy⟩ : ∃ N, N = valN o := ⟨_, rfl⟩
  rw [← hKy] at d0
  rw [← hNy] at d1'
  have HKN : Hid (Ky = valK o ∧ Ny = valN o) := ⟨hKy, hNy⟩
  have hyi : (yn : Int) < n1 := by omega
  clear ho hKy hNy
  have HG3 : Hid (w0.heap.size ≤ W.heap.size) := Nat.le_trans hBw hBW.size
  have hgW : g < W.heap.size := Nat.lt_of_lt_of_le hgw hBW.size
  have HOK : Hid (OkO n1 n2 s.things.length o) := by show OkO _ _ _ _; rw [← HO.out]; exact hok
  have HGW : Hid (∀ wx, Below W.heap.size W wx → wx.heap[g]? = some (.cells cs TRV (0, 0))) := fun wx hb => block_keep hb (block_keep hBW hgb)
  have KG : Hid (∀ wx, Below W.heap.size W wx → Calls Tryd.prog 31 #[.pointer (some ⟨sb, 0, none⟩), .agg #[.string Ky, .int .i64 Ny]] wx fun e w' => ∃ K N, e = .returned (.tuple #[.agg #[.string K, .int .i64 N], .bool (holdsO o)]) ∧ (∀ r, o = some r → r.isFn = false → K = valK (s.get r) ∧ N = valN (s.get r)) ∧ Below W.heap.size W w' ∧ Below wx.heap.size wx w') := fun wx hb => by
    rw [HKN.out.1, HKN.out.2]
    refine (get_any (HS.out.below hb) o HOK.out).mono fun e w' ⟨K, N, h1, h2, h3⟩ => ?_
    exact ⟨K, N, h1, h2, hb.trans (h3.mono hb.size), h3⟩
  obtain ⟨Hh, hHh⟩ : ∃ b, b = holdsO o := ⟨_, rfl⟩
  have HHH : Hid (Hh = holdsO o) := hHh
  rw [← hHh] at KG
  clear hHh hok
  clear h hrow hbx hgb fz hgw hsw hgt hgB hBw hgs
  go_enter Tryd.func14, Tryd.ntmps14
  go_upto_region 2 with fail
  rw [← hW]
  clear hW q0 q1 q2 q3 q0' q1' q2' q3'
  go_upto_region 8 with fail
  go_cut [7, 8] (fun s7 s8 wx => ∃ (vb : Nat) (K : ByteArray) (N : Int), s7 = .pointer (some ⟨vb, 0, none⟩) ∧ s8 = .bool Hh ∧ wx.cell? ⟨vb, 0, none⟩ = some (.string K) ∧ wx.cell? ⟨vb, 1, none⟩ = some (.int .i64 N) ∧ (∀ r, o = some r → r.isFn = false → K = valK (s.get r) ∧ N = valN (s.get r)) ∧ W.heap.size ≤ vb ∧ Below W.heap.size W wx)
  case first =>
    go_region_held3 (fun wx => Below W.heap.size W wx ∧ wx.cell? ⟨sb, 0, none⟩ = some (.slice (some ⟨g, 0, none⟩) n1 cap) ∧ wx.cell? ⟨w.heap.size + 1, 2, none⟩ = some (.int .i64 (yn : Int)) ∧ wx.cell? ⟨g, yn * 2, none⟩ = some (.string Ky) ∧ wx.cell? ⟨g, yn * 2 + 1, none⟩ = some (.int .i64 Ny))
      ((go_split_ands; refine keepL c0 s2 d0 d1' ?_; repeat (with_reducible first | assumption | exact Below.refl _ _ | refine Below.drew ?_ | refine below_al ?_ _ | refine below_set ?_ (Nat.le_refl _))))
      ((go_at_call 31; refine (KG.out _ ?_).mono ?_; (go_split_ands; assumption); rintro e w5 ⟨K, N, rfl, hKN5, hb5, hb5x⟩; have HKN5 : Hid (∀ r, o = some r → r.isFn = false → K = valK (s.get r) ∧ N = valN (s.get r)) := hKN5; clear hKN5; (try (have hz5 := block_keep hb5x (show ((W.alloc (valBox ⟨#[]⟩ 0)).drew).heap[W.heap.size]? = some (valBox ⟨#[]⟩ 0) from heap_new W _); have HZ5 : Hid (w5.heap[W.heap.size]? = some (valBox ⟨#[]⟩ 0)) := hz5; have z0 : w5.cell? ⟨W.heap.size, 0, none⟩ = some (.string ⟨#[]⟩) := (by rw [Lib.cell_of_heap hz5]; rfl); have z1 : w5.cell? ⟨W.heap.size, 1, none⟩ = some (.int .i64 0) := (by rw [Lib.cell_of_heap hz5]; rfl); have y0 := frozen_of_block hz5 0; have y1 := frozen_of_block hz5 1; clear hz5)); clear hb5x))
    all_goals (go_wp2_with fail; go_meet)
    all_goals first
      | with_reducible exact ⟨w5.heap.size, K, N, rfl, rfl, val_new0 w5 K N, val_new1 w5 K N, HKN5.out, hb5.size, below_al hb5 _⟩
      | exact ⟨W.heap.size, K, N, rfl, rfl, (res2_cells HZ5.out _ _).1, (res2_cells HZ5.out _ _).2, HKN5.out, Nat.le_refl _, below_set (below_set hb5 (Nat.le_refl _)) (Nat.le_refl _)⟩
  case rest =>
  obtain ⟨vb, K, N, rfl, rfl, v0, v1, hKN, hvb, hbc⟩ := hcut
  have HKV : Hid (∀ r, o = some r → r.isFn = false → K = valK (s.get r) ∧ N = valN (s.get r)) := hKN
  have HBc : Hid (Below w0.heap.size w wc) := HG.out.2.trans (hbc.mono HG3.out)
  have HSc : Hid (RSt wc w0.heap.size Bt sb n1 s (.slice (some ⟨g, 0, none⟩) n1 cap) xt xp) := HS.out.below hbc
  have gzb := HGW.out wc hbc
  have gf0 := frozen_of_block gzb (x * 2)
  have gf1 := frozen_of_block gzb (x * 2 + 1)
  replace c0 := cell_keep hbc c0
  replace s1 := cell_keep hbc s1
  replace e0 := cell_keep hbc e0
  replace e1 := cell_keep hbc e1
  have n4' : vb ≠ g := by omega
  clear hKN hbc gzb KG d0 d1' s0 s2 s3 d1 d2 fz0 fz1 HS hgW
  cases Hh with
  | false =>
    have HR : Hid (loadD s x (s.get (.var yn)) = s) := by
      show _ = _
      rw [HO.out]
      have h1 := HHH.out
      cases o with
      | none => rfl
      | some r =>
        have h2 : r.isFn = true := by simpa [holdsO] using h1.symm
        simp [loadD, h2]
    go_wp2_with fail
    refine bodyPost_end (results_none rfl _ _ _) rfl ?_
    exact ⟨rfl, _, _, by rw [HR.out]; exact HSc.out, HBc.out⟩
  | true =>
    have HRR : Hid (∃ r, K = valK (s.get r) ∧ N = valN (s.get r) ∧ loadD s x (s.get (.var yn)) = s.put (.var x) (s.get r)) := by
      have h1 := HHH.out
      cases ho : o with
      | none => rw [ho] at h1; cases h1
      | some r =>
        rw [ho] at h1
        have h2 : r.isFn = false := by simpa [holdsO] using h1.symm
        obtain ⟨k1, k2⟩ := HKV.out r ho h2
        refine ⟨r, k1, k2, ?_⟩
        rw [HO.out, ho]
        simp [loadD, h2]
    have HP : Hid (RSt (set2 wc g x K N) w0.heap.size Bt sb n1 (loadD s x (s.get (.var yn))) (.slice (some ⟨g, 0, none⟩) n1 cap) xt xp) := by
      obtain ⟨r, k1, k2, k3⟩ := HRR.out
      show RSt _ _ _ _ _ _ _ _ _
      rw [k3, k1, k2]; exact HSc.out.putV rfl hx (s.get r)
    go_upto_region 10 with fail
    go_region_held3 (fun wx => wx.cell? ⟨sb, 0, none⟩ = some (.slice (some ⟨g, 0, none⟩) n1 cap) ∧ wx.cell? ⟨w.heap.size + 1, 1, none⟩ = some (.int .i64 (x : Int)) ∧ wx.cell? ⟨vb, 0, none⟩ = some (.string K) ∧ wx.cell? ⟨vb, 1, none⟩ = some (.int .i64 N))
      ((go_split_ands; first | exact ⟨c0, s1, v0, v1⟩ | exact ⟨o2 c0 n1', o2 s1 n2', o2 v0 n4', o2 v1 n4'⟩)) (fail)
    go_wp2_with fail
    refine bodyPost_end (results_none rfl _ _ _) rfl ?_
    exact ⟨rfl, _, _, HP.out.below (Below.refl _ _).drew, ((HBc.out.setCell HG.out.1 _).setCell HG.out.1 _).drew⟩
end Go.Proofs.YtdbcjeccmjpbiabDoor

/-
  The document's (*State).Do of a call.
-/
namespace Go.Proofs.YtdbcjeccmjpbiabDoor
open Go.RowKit Go.Extern.Stop Go.Stop Go.Extern

/-- One value of a row of one's own. -/
theorem vals_at {w : World} {B n : Nat} {v : Value} {os : List (Option Ref)} (h : w.ownsRow B TRV 2 v n (vcells os)) (hl : os.length = n) (j : Nat) (hj : j < n) :
    ∃ lb c, v = .slice (some ⟨lb, 0, none⟩) n c ∧ B ≤ lb ∧ w.cell? ⟨lb, j * 2, none⟩ = some (.string (valK (os.getD j none))) ∧ w.cell? ⟨lb, j * 2 + 1, none⟩ = some (.int .i64 (valN (os.getD j none))) := by
  rcases h.2 with ⟨q, e⟩ | ⟨g, cap, cur, hv, hg, hh, hcap, hmax, hsz, hcur⟩
  · omega
  · have h0 := h
    rw [hv] at h0
    have := vcells_at os j (by omega)
    exact ⟨g, cap, hv, hg, by rw [owns_cell h0 (j * 2) (by omega)]; exact this.1, by rw [owns_cell h0 (j * 2 + 1) (by omega)]; exact this.2⟩
theorem given_take (s : StD) (args : List Int) (k : Nat) (h : k < args.length) : (givenD s args).take (k + 1) = (givenD s args).take k ++ [s.get (.var (args.getD k 0).toNat)] := by
  rw [← given_at s args k h]
  exact take_snoc (givenD s args) none k (by simpa [givenD] using h)
theorem given_len (s : StD) (args : List Int) : (givenD s args).length = args.length := by simp [givenD]
theorem owns_set2 {w : World} {B n g i : Nat} {v : Value} {xs : List Value} {K : ByteArray} {N : Int} (h : w.ownsRow B TRV 2 v n xs) (hg : g < B) : (set2 w g i K N).ownsRow B TRV 2 v n xs := by
  have hne : ∀ q, v.ownBlock = some q → q ≠ g := fun q hq => by have := (h.lt q hq).1; omega
  exact owns_set_other (owns_set_other h hne _ _) hne _ _
theorem block_set2 {w : World} {g i b : Nat} {K : ByteArray} {N : Int} {o : Obj} (h : w.heap[b]? = some o) (hne : g ≠ b) : (set2 w g i K N).heap[b]? = some o := by
  rw [set_other _ _ _ _ _ hne, set_other _ _ _ _ _ hne]; exact h
theorem below_al0 {B : Nat} {w0 w : World} (hB : B ≤ w.heap.size) (h : Below B w0 w) (o : Obj) : Below B w0 (w.alloc o) := h.alloc hB o

set_option maxRecDepth 100000 in
set_option maxHeartbeats 8000000 in
theorem doR_call {w0 w : World} {Bt sb n1 m1 m2 n3 c1 c2 tb tq tc na ac : Nat} {p1 p2 aa : Option Addr} {s : StD} {xv xt xp : Value} (h : RSt w w0.heap.size Bt sb n1 s xv xt xp) (k x yn : Nat) (hk : k < n3) (hx : x < n1)
    (q0 : w.cell? ⟨tb, tq + k * 4, none⟩ = some (.string ⟨#[99, 97, 108, 108]⟩)) (q1 : w.cell? ⟨tb, tq + k * 4 + 1, none⟩ = some (.int .i64 (x : Int))) (q2 : w.cell? ⟨tb, tq + k * 4 + 2, none⟩ = some (.int .i64 (yn : Int))) (q3 : w.cell? ⟨tb, tq + k * 4 + 3, none⟩ = some (.slice aa na ac)) (hyn : yn < n1) (fs : List FunD) (args : List Int) (hok : OkO n1 fs.length s.things.length (s.get (.var yn))) (hw : Below w0.heap.size w0 w) (hF : IsFuns w0 (.slice p2 m2 c2) fs) (hf : ∀ i, i < fs.length → FunOk n1 (fs.getD i default)) (hA : IsInts w0 (.slice aa na ac) args) (hna : na = args.length) (hal : args.length ≤ 1000000) (hao : ∀ j, j < args.length → 0 ≤ args.getD j 0 ∧ args.getD j 0 < (n1 : Int)) :
    Calls Tryd.prog 14 #[.pointer (some ⟨sb, 0, none⟩), .agg #[.slice p1 m1 c1, .slice p2 m2 c2, .slice (some ⟨tb, tq, none⟩) n3 tc], .int .i64 (k : Int)] w fun e w' => e = .returned (.tuple #[]) ∧ ∃ xt' xp', RSt w' w0.heap.size Bt sb n1 (callD fs s x args (s.get (.var yn))) xv xt' xp' ∧ Below w0.heap.size w w' := by
  obtain ⟨g, cap, cs, rfl, hgB, hgt, hgs, hgb, hrow⟩ := h.vrow (by omega)
  have hBw := h.size
  have hgw : g < w.heap.size := (Array.getElem?_eq_some_iff.1 hgb).1
  have hsw : sb < w.heap.size := (Array.getElem?_eq_some_iff.1 h.blk).1
  obtain ⟨e0, e1⟩ := hrow x hx
  obtain ⟨W, hW⟩ : ∃ W, W = (w.alloc (.cells #[.slice p1 m1 c1, .slice p2 m2 c2, .slice (some ⟨tb, tq, none⟩) n3 tc] 26)).alloc (stmtBox ⟨#[99, 97, 108, 108]⟩ (x : Int) (yn : Int) (.slice aa na ac)) := ⟨_, rfl⟩
  have hBW : Below w.heap.size w W := by rw [hW]; exact (below1 w _).alloc (by simp) _
  have hbx : W.heap[w.heap.size + 1]? = some (stmtBox ⟨#[99, 97, 108, 108]⟩ (x : Int) (yn : Int) (.slice aa na ac)) := by
    rw [hW]
    have := heap_new (w.alloc (.cells #[.slice p1 m1 c1, .slice p2 m2 c2, .slice (some ⟨tb, tq, none⟩) n3 tc] 26)) (stmtBox ⟨#[99, 97, 108, 108]⟩ (x : Int) (yn : Int) (.slice aa na ac))
    simpa using this
  have s0 : W.cell? ⟨w.heap.size + 1, 0, none⟩ = some (.string ⟨#[99, 97, 108, 108]⟩) := by rw [Lib.cell_of_heap hbx]; rfl
  have s1 : W.cell? ⟨w.heap.size + 1, 1, none⟩ = some (.int .i64 (x : Int)) := by rw [Lib.cell_of_heap hbx]; rfl
  have s2 : W.cell? ⟨w.heap.size + 1, 2, none⟩ = some (.int .i64 (yn : Int)) := by rw [Lib.cell_of_heap hbx]; rfl
  have s3 : W.cell? ⟨w.heap.size + 1, 3, none⟩ = some (.slice aa na ac) := by rw [Lib.cell_of_heap hbx]; rfl
  have HS : Hid (RSt W w0.heap.size Bt sb n1 s (.slice (some ⟨g, 0, none⟩) n1 cap) xt xp) := h.below hBW
  obtain ⟨c0, d1, d2⟩ := HS.out.cells
  replace e0 := cell_keep hBW e0
  replace e1 := cell_keep hBW e1
  have fz := frozen_of_block (block_keep hBW hgb)
  have fz0 := fz (x * 2)
  have fz1 := fz (x * 2 + 1)
  have HG : Hid (w0.heap.size ≤ g ∧ Below w0.heap.size w W) := ⟨hgB, hBW.mono hBw⟩
  have n1' : sb ≠ g := fun q => hgs q.symm
  have n2' : w.heap.size + 1 ≠ g := by omega
  have q0' := fun o => cell_keep (below1 w o) q0
  have q1' := fun o => cell_keep (below1 w o) q1
  have q2' := fun o => cell_keep (below1 w o) q2
  have q3' := fun o => cell_keep (below1 w o) q3
  have hki : (k : Int) < n3 := by omega
  have hxi : (x : Int) < n1 := by omega
  obtain ⟨d0, d1'⟩ := hrow yn hyn
  replace d0 := cell_keep hBW d0
  replace d1' := cell_keep hBW d1'
  obtain ⟨o, ho⟩ : ∃ o, o = s.vars.getD yn none := ⟨_, rfl⟩
  rw [← ho] at d0 d1'
  have HO : Hid (s.get (.var yn) = o) := ho.symm
  obtain ⟨Ky, hKy⟩ : ∃ K, K = valK o := ⟨_, rfl⟩
  obtain ⟨Ny, hNy⟩ : ∃ N, N = valN o := ⟨_, rfl⟩
  rw [← hKy] at d0
  rw [← hNy] at d1'
  have HKN : Hid (Ky = valK o ∧ Ny = valN o) := ⟨hKy, hNy⟩
  have hyi : (yn : Int) < n1 := by omega
  clear ho hKy hNy
  have HOK : Hid (OkO n1 fs.length s.things.length o) := by show OkO _ _ _ _; rw [← HO.out]; exact hok
  have HG3 : Hid (w0.heap.size ≤ W.heap.size ∧ w0.heap.size ≤ w.heap.size) := ⟨Nat.le_trans hBw hBW.size, hBw⟩
  have HGL : Hid (g < w.heap.size) := hgw
  have HBX : Hid (W.heap[w.heap.size + 1]? = some (stmtBox ⟨#[99, 97, 108, 108]⟩ (x : Int) (yn : Int) (.slice aa na ac))) := hbx
  have pb1 : W.cell? ⟨w.heap.size, 1, none⟩ = some (.slice p2 m2 c2) := by
    rw [hW]
    exact cell_keep (below1 _ _) (by simp)
  have HGW : Hid (∀ wx, Below W.heap.size W wx → wx.heap[g]? = some (.cells cs TRV (0, 0))) := fun wx hb => block_keep hb (block_keep hBW hgb)
  have HFS : Hid (m2 = fs.length ∧ ∀ wx, Below w0.heap.size w0 wx → ∀ i, i < m2 → ∃ fb fo S0 pa pc, p2 = some ⟨fb, fo, none⟩ ∧ wx.cell? ⟨fb, fo + i * 3, none⟩ = some (.string S0) ∧ wx.cell? ⟨fb, fo + i * 3 + 1, none⟩ = some (.slice pa (fs.getD i default).params.length pc) ∧ wx.cell? ⟨fb, fo + i * 3 + 2, none⟩ = some (.int .i64 (fs.getD i default).ret) ∧ IsInts w0 (.slice pa (fs.getD i default).params.length pc) (fs.getD i default).params) := by
    obtain ⟨fa, fc, e, -, hfs⟩ := hF
    cases e
    refine ⟨rfl, fun wx hwx i hi => ?_⟩
    obtain ⟨fb, fo, e2, pv, q0, q1, qp, q2⟩ := hfs i hi
    obtain ⟨hpi, pa, pc, e3, -⟩ := qp
    rw [e3] at q1 hpi
    exact ⟨fb, fo, _, pa, pc, e2, cell_keep hwx q0, cell_keep hwx q1, cell_keep hwx q2, hpi⟩
  have HF : Hid (∀ i, i < fs.length → FunOk n1 (fs.getD i default)) := hf
  have HNA : Hid (na = args.length) := hna
  have HAO : Hid (∀ j, j < na → 0 ≤ args.getD j 0 ∧ args.getD j 0 < (n1 : Int)) := by
    show ∀ j, _
    rw [hna]; exact hao
  have hnl : na ≤ 1000000 := by omega
  have HA : Hid (∀ wx, Below w0.heap.size w0 wx → ∀ j, j < na → ∃ b o, aa = some ⟨b, o, none⟩ ∧ wx.cell? ⟨b, o + j, none⟩ = some (.int .i64 (args.getD j 0))) := fun wx hwx j hj => isInts_at (hA.below hwx) j (by omega)
  have HW0 : Hid (Below w0.heap.size w0 w) := hw
  clear hok hF hf hA hna hal hao hw
  clear h hrow hbx hgb fz hgw hsw hgt hgB hBw hgs
  go_enter Tryd.func14, Tryd.ntmps14
  go_upto_region 2 with fail
  rw [← hW]
  clear hW q0 q1 q2 q3 q0' q1' q2' q3'
  go_upto_region 24 with fail
  go_region_held3 (fun wx => wx.cell? ⟨sb, 0, none⟩ = some (.slice (some ⟨g, 0, none⟩) n1 cap) ∧ wx.cell? ⟨w.heap.size + 1, 2, none⟩ = some (.int .i64 (yn : Int)) ∧ wx.cell? ⟨g, yn * 2, none⟩ = some (.string Ky) ∧ wx.cell? ⟨g, yn * 2 + 1, none⟩ = some (.int .i64 Ny))
    ((go_split_ands; first | exact ⟨c0, s2, d0, d1'⟩ | exact ⟨cell_keep (below1 _ _) c0, cell_keep (below1 _ _) s2, cell_keep (below1 _ _) d0, cell_keep (below1 _ _) d1'⟩)) (fail)
  obtain ⟨W3, hW3⟩ : ∃ W3, W3 = (W.alloc (valBox Ky Ny)).drew := ⟨_, rfl⟩
  have hb3 : Below W.heap.size W W3 := by rw [hW3]; exact (below1 W _).drew
  have hvb : W3.heap[W.heap.size]? = some (valBox Ky Ny) := by rw [hW3]; exact heap_new W _
  have v0 : W3.cell? ⟨W.heap.size, 0, none⟩ = some (.string Ky) := by rw [Lib.cell_of_heap hvb]; rfl
  have v1 : W3.cell? ⟨W.heap.size, 1, none⟩ = some (.int .i64 Ny) := by rw [Lib.cell_of_heap hvb]; rfl
  have HS3 : Hid (RSt W3 w0.heap.size Bt sb n1 s (.slice (some ⟨g, 0, none⟩) n1 cap) xt xp) := HS.out.below hb3
  have HB3 : Hid (Below w0.heap.size w W3) := HG.out.2.trans (hb3.mono HG3.out.1)
  rw [← hW3]
  clear hW3 hvb e0 e1 fz0 fz1 s0 s1 s2 d1 d2 c0 d0 d1'
  replace s3 := cell_keep hb3 s3
  replace pb1 := cell_keep hb3 pb1
  cases hoc : o with
  | none =>
    have hK : Ky = ⟨#[110, 111, 110, 101]⟩ := by rw [HKN.out.1, hoc]; rfl
    subst hK
    have HR : Hid (callD fs s x args (s.get (.var yn)) = s) := by show _ = _; rw [HO.out, hoc]; rfl
    clear hoc
    go_wp2_with fail
    refine bodyPost_ret (results_none rfl _ _ _) rfl ?_
    exact ⟨rfl, _, _, by rw [HR.out]; exact HS3.out, HB3.out⟩
  | some r =>
    have hro := HOK.out r hoc
    cases r using ref_cases with
    | var i =>
      have hK : Ky = ⟨#[118, 97, 114]⟩ := by rw [HKN.out.1, hoc]; rfl
      subst hK
      have HR : Hid (callD fs s x args (s.get (.var yn)) = s) := by show _ = _; rw [HO.out, hoc]; rfl
      clear hoc
      go_wp2_with fail
      refine bodyPost_ret (results_none rfl _ _ _) rfl ?_
      exact ⟨rfl, _, _, by rw [HR.out]; exact HS3.out, HB3.out⟩
    | thing i =>
      have hK : Ky = ⟨#[116, 104, 105, 110, 103]⟩ := by rw [HKN.out.1, hoc]; rfl
      subst hK
      have HR : Hid (callD fs s x args (s.get (.var yn)) = s) := by show _ = _; rw [HO.out, hoc]; rfl
      clear hoc
      go_wp2_with fail
      refine bodyPost_ret (results_none rfl _ _ _) rfl ?_
      exact ⟨rfl, _, _, by rw [HR.out]; exact HS3.out, HB3.out⟩
    | fn i =>
      have hi : i < m2 := by rw [HFS.out.1]; exact hro
      have hK : Ky = ⟨#[102, 117, 110]⟩ := by rw [HKN.out.1, hoc]; rfl
      have hN : Ny = (i : Int) := by rw [HKN.out.2, hoc]; rfl
      subst hK hN
      have HR : Hid (callD fs s x args (s.get (.var yn)) = enterD (fs.getD i default) s x args) := by show _ = _; rw [HO.out, hoc]; rfl
      have HFO : Hid (FunOk n1 (fs.getD i default)) := HF.out i (by rw [← HFS.out.1]; exact hi)
      clear hoc hro HF HOK HKN HO
      obtain ⟨fb, fo, S0, pa, pc, rfl, q0, q1, q2, hpi⟩ := HFS.out.2 W3 (HW0.out.trans HB3.out) i hi
      obtain ⟨f, hfe⟩ : ∃ f, f = fs.getD i default := ⟨_, rfl⟩
      rw [← hfe] at q1 q2 hpi HR HFO
      clear hfe HFS
      obtain ⟨np, hnp⟩ : ∃ m, m = f.params.length := ⟨_, rfl⟩
      obtain ⟨z, hz⟩ : ∃ z, z = f.ret := ⟨_, rfl⟩
      rw [← hnp] at q1 hpi
      rw [← hz] at q2
      have HLP : Hid (np = f.params.length ∧ z = f.ret) := ⟨hnp, hz⟩
      have HPI : Hid (∀ wx, Below w0.heap.size w0 wx → ∀ j, j < np → ∃ b o, pa = some ⟨b, o, none⟩ ∧ b < w0.heap.size ∧ wx.cell? ⟨b, o + j, none⟩ = some (.int .i64 (f.params.getD j 0))) := fun wx hwx j hj => by
        obtain ⟨b, o, e, hc⟩ := isInts_at hpi j (by omega)
        exact ⟨b, o, e, lt_of_cell hc, cell_keep hwx hc⟩
      have hii : (i : Int) < m2 := by omega
      clear hnp hz hpi
      go_upto_region 27 with fail
      obtain ⟨W4, hW4⟩ : ∃ W4, W4 = W3.alloc (.cells #[.string S0, .slice pa np pc, .int .i64 z] 62) := ⟨_, rfl⟩
      have hb4 : Below W3.heap.size W3 W4 := by rw [hW4]; exact below1 W3 _
      have hfb : W4.heap[W3.heap.size]? = some (.cells #[.string S0, .slice pa np pc, .int .i64 z] 62) := by rw [hW4]; exact heap_new W3 _
      rw [← hW4]
      clear hW4 q0 q1 q2 v0 v1 pb1
      replace s3 := cell_keep hb4 s3
      have b1 : W4.cell? ⟨W3.heap.size, 1, none⟩ = some (.slice pa np pc) := by rw [Lib.cell_of_heap hfb]; rfl
      have HS4 : Hid (RSt W4 w0.heap.size Bt sb n1 s (.slice (some ⟨g, 0, none⟩) n1 cap) xt xp) := HS3.out.below hb4
      have hB3z : w0.heap.size ≤ W3.heap.size := Nat.le_trans HG3.out.2 HB3.out.size
      have HB4 : Hid (Below w0.heap.size w W4) := HB3.out.trans (hb4.mono hB3z)
      have HSB : Hid (W4.heap[w.heap.size + 1]? = some (stmtBox ⟨#[99, 97, 108, 108]⟩ (x : Int) (yn : Int) (.slice aa na ac)) ∧ W4.heap[W3.heap.size]? = some (.cells #[.string S0, .slice pa np pc, .int .i64 z] 62)) := ⟨block_keep hb4 (block_keep hb3 HBX.out), hfb⟩
      have hB4z : w0.heap.size ≤ W4.heap.size := Nat.le_trans hB3z hb4.size
      have hgW4 : g < W4.heap.size := Nat.lt_of_lt_of_le HGL.out HB4.out.size
      have HG4 : Hid (∀ wx, Below W4.heap.size W4 wx → Below w0.heap.size w0 wx) := fun wx hb => (HW0.out.trans HB4.out).trans (hb.mono hB4z)
      have HGW4 : Hid (W4.heap[g]? = some (.cells cs TRV (0, 0))) := block_keep hb4 (HGW.out W3 hb3)
      clear hfb hb4 HS3 HS HGW HBX hb3 hi hii
      by_cases hg : np = na
      · subst hg
        go_wp2_with fail
        clear b1
        go_loopw [12, 13] (fun u t wr => ∃ k : Nat, k ≤ np ∧ t = .int .i64 k ∧ wr.ownsRow W4.heap.size TRV 2 u k (vcells ((givenD s args).take k)) ∧ Below W4.heap.size W4 wr) (fun _ t _ => (np - intOf t).toNat)
        case atStart => exact ⟨0, Nat.zero_le _, rfl, World.ownsRow_nil _ _ _ _, Below.refl _ _⟩
        case round =>
          obtain ⟨k, hk, rfl, ho, hB⟩ := hrel
          obtain ⟨ua, uc, rfl⟩ := owns_form ho
          by_cases hlt : k < np
          · obtain ⟨ab, ao, rfl, e0⟩ := HA.out W4 (HG4.out _ (Below.refl _ _)) k hlt
            obtain ⟨i0, i1⟩ := HAO.out k hlt
            obtain ⟨a, ha⟩ : ∃ a, a = (args.getD k 0).toNat := ⟨_, rfl⟩
            have haz : args.getD k 0 = (a : Int) := by omega
            have han : a < n1 := by omega
            rw [haz] at e0
            obtain ⟨g', cap', cs', hv', -, -, -, -, hrow3⟩ := HS4.out.vrow (by omega)
            cases hv'
            obtain ⟨d0, d1⟩ := hrow3 a han
            obtain ⟨c0, -, -⟩ := HS4.out.cells
            obtain ⟨oa, hoa⟩ : ∃ o, o = s.vars.getD a none := ⟨_, rfl⟩
            rw [← hoa] at d0 d1
            have htk : (givenD s args).take (k + 1) = (givenD s args).take k ++ [oa] := by
              rw [given_take s args k (by rw [← HNA.out]; exact hlt), ← ha, hoa]; rfl
            have ho' : wr.drew.ownsRow W4.heap.size TRV 2 (.slice ua k uc) k (vcells ((givenD s args).take k)) := owns_below ho (Below.refl _ _).drew
            obtain ⟨v', w2, hr, ho2, hb2, hk2⟩ := append_one wr.drew W4.heap.size (.slice ua k uc) k 2 24 53 TRV (.agg #[.string ⟨#[]⟩, .int .i64 0]) (vcells ((givenD s args).take k)) (valCells oa) ho' hB.size Tryd.underlying53 Tryd.infoRV (by decide) rfl rfl (fun x hx => by
              simp only [valCells, List.mem_cons, List.not_mem_nil, or_false] at hx
              rcases hx with rfl | rfl <;> rfl) (by omega) 53 (by decide)
            rw [← vcells_snoc, ← htk] at ho2
            obtain ⟨va, vc, rfl⟩ := owns_form ho2
            have HRA : Hid ((Builtin.append_ #[53, 53] 53 #[.slice ua k uc, .slice (some ⟨wr.heap.size, 0, none⟩) 1 1]).run Tryd.prog ((wr.alloc (.cells #[.string (valK oa), .int .i64 (valN oa)] TRV)).drew) = .ok (.slice va (k + 1) vc) w2) := hr
            have HN2 : Hid (w2.ownsRow W4.heap.size TRV 2 (.slice va (k + 1) vc) (k + 1) (vcells ((givenD s args).take (k + 1)))) := ho2
            have hB2 : Below W4.heap.size W4 w2 := hB.drew.trans hb2
            obtain ⟨K, hK⟩ : ∃ K, K = valK oa := ⟨_, rfl⟩
            obtain ⟨N, hN⟩ : ∃ N, N = valN oa := ⟨_, rfl⟩
            rw [← hK] at HRA d0
            rw [← hN] at HRA d1
            have KX : Hid (∀ wx, Below W4.heap.size W4 wx → wx.cell? ⟨sb, 0, none⟩ = some (.slice (some ⟨g, 0, none⟩) n1 cap) ∧ wx.cell? ⟨w.heap.size + 1, 3, none⟩ = some (.slice (some ⟨ab, ao, none⟩) np ac) ∧ wx.cell? ⟨ab, ao + k, none⟩ = some (.int .i64 (a : Int)) ∧ wx.cell? ⟨g, a * 2, none⟩ = some (.string K) ∧ wx.cell? ⟨g, a * 2 + 1, none⟩ = some (.int .i64 N)) := fun wx hb => ⟨cell_keep hb c0, cell_keep hb s3, cell_keep hb e0, cell_keep hb d0, cell_keep hb d1⟩
            have s3r := cell_keep hB s3
            have hki : (k : Int) < np := by omega
            have hai : (a : Int) < n1 := by omega
            have hwz := hB.size
            clear ho ho' hr ho2 hb2 hk2 hK hN hoa htk hrow3 ha haz i0 i1 c0 e0 d0 d1 s3
            go_upto_region 32 with fail
            go_region_held3 (fun wx => wx.cell? ⟨sb, 0, none⟩ = some (.slice (some ⟨g, 0, none⟩) n1 cap) ∧ wx.cell? ⟨w.heap.size + 1, 3, none⟩ = some (.slice (some ⟨ab, ao, none⟩) np ac) ∧ wx.cell? ⟨ab, ao + k, none⟩ = some (.int .i64 (a : Int)) ∧ wx.cell? ⟨g, a * 2, none⟩ = some (.string K) ∧ wx.cell? ⟨g, a * 2 + 1, none⟩ = some (.int .i64 N))
              ((go_split_ands; refine KX.out _ ?_; repeat (with_reducible first | exact hB | exact hB2 | refine Below.drew ?_ | refine below_al0 hwz ?_ _)))
              ((refine step_append_run rfl (.tmp 201) (.tmp 213) _ _ rfl _ _ rfl rfl _ _ HRA.out ?_))
            go_wp2_with fail
            go_roundw
            case rel => exact ⟨k + 1, hlt, by go_num, HN2.out, hB2⟩
            case measure => simp [intOf]; omega
          · have hkn : k = np := by omega
            subst hkn
            have hwz := hB.size
            have s3r := cell_keep hB s3
            have HL : Hid (wr.ownsRow W4.heap.size TRV 2 (.slice ua k uc) k (vcells (givenD s args))) := by
              have := ho
              rw [List.take_of_length_le (by rw [given_len, HNA.out]; exact Nat.le_refl _)] at this
              exact this
            have HSr : Hid (RSt wr w0.heap.size Bt sb n1 s (.slice (some ⟨g, 0, none⟩) n1 cap) xt xp) := HS4.out.below hB
            have HBB : Hid (wr.heap[w.heap.size + 1]? = some (stmtBox ⟨#[99, 97, 108, 108]⟩ (x : Int) (yn : Int) (.slice aa k ac)) ∧ wr.heap[W3.heap.size]? = some (.cells #[.string S0, .slice pa k pc, .int .i64 z] 62)) := ⟨block_keep hB HSB.out.1, block_keep hB HSB.out.2⟩
            have HBr : Hid (Below w0.heap.size w wr) := HB4.out.trans (hB.mono hB4z)
            have hn3 : W3.heap.size ≠ g := by have := HGL.out; have := HB3.out.size; omega
            have hn4 : w.heap.size + 1 ≠ g := n2'
            clear ho hk hlt HB4 HB3 HS4 HSB HGW4 s3
            obtain ⟨W5, rfl⟩ : ∃ W5, W5 = wr := ⟨_, rfl⟩
            go_wp2_with fail
            clear s3r hB hwz
            go_loopw [14] (fun t wr => ∃ j : Nat, j ≤ k ∧ t = .int .i64 j ∧ RSt wr w0.heap.size Bt sb n1 (putN s f.params (givenD s args) j) (.slice (some ⟨g, 0, none⟩) n1 cap) xt xp ∧ wr.ownsRow W4.heap.size TRV 2 (.slice ua k uc) k (vcells (givenD s args)) ∧ wr.heap[w.heap.size + 1]? = some (stmtBox ⟨#[99, 97, 108, 108]⟩ (x : Int) (yn : Int) (.slice aa k ac)) ∧ wr.heap[W3.heap.size]? = some (.cells #[.string S0, .slice pa k pc, .int .i64 z] 62) ∧ Below w0.heap.size w wr) (fun t _ => (k - intOf t).toNat)
            case atStart => exact ⟨0, Nat.zero_le _, rfl, HSr.out, HL.out, HBB.out.1, HBB.out.2, HBr.out⟩
            case round =>
              clear HL HSr HBB HBr
              obtain ⟨j, hj, rfl, hM, hrow, hsb, hfb, hwr⟩ := hrel
              obtain ⟨c0, -, -⟩ := hM.cells
              by_cases hlt : j < k
              · obtain ⟨pb, po, rfl, hpb, e0⟩ := HPI.out wr (HW0.out.trans hwr) j hlt
                obtain ⟨i0, i1⟩ := HFO.out.ps j (by rw [← HLP.out.1]; exact hlt)
                obtain ⟨a, ha⟩ : ∃ a, a = (f.params.getD j 0).toNat := ⟨_, rfl⟩
                have haz : f.params.getD j 0 = (a : Int) := by omega
                have han : a < n1 := by omega
                rw [haz] at e0
                obtain ⟨lb, lc, hle, hlB, l0, l1⟩ := vals_at hrow (by rw [given_len, HNA.out]) j hlt
                obtain ⟨rfl, rfl⟩ : ua = some ⟨lb, 0, none⟩ ∧ uc = lc := by injection hle with h1 _ h3; exact ⟨h1, h3⟩
                obtain ⟨oa, hoa⟩ : ∃ o, o = (givenD s args).getD j none := ⟨_, rfl⟩
                rw [← hoa] at l0 l1
                have HP0 : RSt (set2 wr g a (valK oa) (valN oa)) w0.heap.size Bt sb n1 (putN s f.params (givenD s args) (j + 1)) (.slice (some ⟨g, 0, none⟩) n1 cap) xt xp := by
                  have := hM.putV rfl han oa
                  unfold putN
                  rw [← ha, ← hoa]
                  exact this
                obtain ⟨g', cap', cs', hv', -, -, hgs', hgb', hrow3⟩ := hM.vrow (by omega)
                cases hv'
                obtain ⟨d0, d1⟩ := hrow3 a han
                have fz0 := frozen_of_block hgb' (a * 2)
                have fz1 := frozen_of_block hgb' (a * 2 + 1)
                obtain ⟨K, hK⟩ : ∃ K, K = valK oa := ⟨_, rfl⟩
                obtain ⟨N, hN⟩ : ∃ N, N = valN oa := ⟨_, rfl⟩
                obtain ⟨K', hK'⟩ : ∃ K, K = valK ((putN s f.params (givenD s args) j).vars.getD a none) := ⟨_, rfl⟩
                obtain ⟨N', hN'⟩ : ∃ N, N = valN ((putN s f.params (givenD s args) j).vars.getD a none) := ⟨_, rfl⟩
                rw [← hK] at l0 HP0
                rw [← hN] at l1 HP0
                rw [← hK'] at d0
                rw [← hN'] at d1
                have HP : Hid (RSt (set2 wr g a K N) w0.heap.size Bt sb n1 (putN s f.params (givenD s args) (j + 1)) (.slice (some ⟨g, 0, none⟩) n1 cap) xt xp ∧ (set2 wr g a K N).ownsRow W4.heap.size TRV 2 (.slice (some ⟨lb, 0, none⟩) k uc) k (vcells (givenD s args)) ∧ (set2 wr g a K N).heap[w.heap.size + 1]? = some (stmtBox ⟨#[99, 97, 108, 108]⟩ (x : Int) (yn : Int) (.slice aa k ac)) ∧ (set2 wr g a K N).heap[W3.heap.size]? = some (.cells #[.string S0, .slice (some ⟨pb, po, none⟩) k pc, .int .i64 z] 62) ∧ Below w0.heap.size w (set2 wr g a K N)) := ⟨HP0, owns_set2 hrow hgW4, block_set2 hsb (Ne.symm hn4), block_set2 hfb (Ne.symm hn3), (hwr.setCell HG.out.1 _).setCell HG.out.1 _⟩
                have b1 : wr.cell? ⟨W3.heap.size, 1, none⟩ = some (.slice (some ⟨pb, po, none⟩) k pc) := by rw [Lib.cell_of_heap hfb]; rfl
                have hgL := HG.out.1
                have m1' : pb ≠ g := by omega
                have m2' : lb ≠ g := by omega
                have hji : (j : Int) < k := by omega
                have hai : (a : Int) < n1 := by omega
                clear hM hrow hsb hfb HP0 hK hN hK' hN' hoa hrow3 hgb' hgs' ha haz i0 i1 hle hlB hpb hgL
                go_upto_region 36 with fail
                go_region_held3 (fun wx => wx.cell? ⟨sb, 0, none⟩ = some (.slice (some ⟨g, 0, none⟩) n1 cap) ∧ wx.cell? ⟨W3.heap.size, 1, none⟩ = some (.slice (some ⟨pb, po, none⟩) k pc) ∧ wx.cell? ⟨pb, po + j, none⟩ = some (.int .i64 (a : Int)) ∧ wx.cell? ⟨lb, j * 2, none⟩ = some (.string K) ∧ wx.cell? ⟨lb, j * 2 + 1, none⟩ = some (.int .i64 N))
                  ((go_split_ands; first | exact ⟨c0, b1, e0, l0, l1⟩ | exact ⟨o2 c0 n1', o2 b1 hn3, o2 e0 m1', o2 l0 m2', o2 l1 m2'⟩)) (fail)
                clear c0 b1 e0 l0 l1 d0 d1 fz0 fz1
                go_wp2_with fail
                go_roundw
                case rel =>
                  obtain ⟨r1, r2, r3, r4, r5⟩ := HP.out
                  exact ⟨j + 1, hlt, by go_num, r1.below (Below.refl _ _).drew, owns_below r2 (Below.refl _ _).drew, r3, r4, r5.drew⟩
                case measure => simp [intOf]; omega
              · have hjn : j = k := by omega
                subst hjn
                obtain ⟨a, ha⟩ : ∃ a, a = z.toNat := ⟨_, rfl⟩
                have hr0 := HFO.out.r0
                have hr1 := HFO.out.r1
                rw [← HLP.out.2] at hr0 hr1
                have haz : z = (a : Int) := by omega
                have han : a < n1 := by omega
                have hS : enterD f s x args = (putN s f.params (givenD s args) j).put (.var x) ((putN s f.params (givenD s args) j).get (.var a)) := by
                  unfold enterD
                  rw [if_pos (by rw [← HNA.out, ← HLP.out.1]), ← HNA.out, ha, HLP.out.2]
                obtain ⟨g', cap', cs', hv', -, -, hgs', hgb', hrow3⟩ := hM.vrow (by omega)
                cases hv'
                obtain ⟨d0, d1⟩ := hrow3 a han
                obtain ⟨t0, t1⟩ := hrow3 x hx
                have fz0 := frozen_of_block hgb' (x * 2)
                have fz1 := frozen_of_block hgb' (x * 2 + 1)
                obtain ⟨oa, hoa⟩ : ∃ o, o = (putN s f.params (givenD s args) j).vars.getD a none := ⟨_, rfl⟩
                rw [← hoa] at d0 d1
                have HP0 : RSt (set2 wr g x (valK oa) (valN oa)) w0.heap.size Bt sb n1 (enterD f s x args) (.slice (some ⟨g, 0, none⟩) n1 cap) xt xp := by
                  rw [hS, hoa]
                  exact hM.putV rfl hx _
                obtain ⟨K, hK⟩ : ∃ K, K = valK oa := ⟨_, rfl⟩
                obtain ⟨N, hN⟩ : ∃ N, N = valN oa := ⟨_, rfl⟩
                obtain ⟨K', hK'⟩ : ∃ K, K = valK ((putN s f.params (givenD s args) j).vars.getD x none) := ⟨_, rfl⟩
                obtain ⟨N', hN'⟩ : ∃ N, N = valN ((putN s f.params (givenD s args) j).vars.getD x none) := ⟨_, rfl⟩
                rw [← hK] at d0 HP0
                rw [← hN] at d1 HP0
                rw [← hK'] at t0
                rw [← hN'] at t1
                have HP : Hid (RSt (set2 wr g x K N) w0.heap.size Bt sb n1 (enterD f s x args) (.slice (some ⟨g, 0, none⟩) n1 cap) xt xp ∧ Below w0.heap.size w (set2 wr g x K N)) := ⟨HP0, (hwr.setCell HG.out.1 _).setCell HG.out.1 _⟩
                have b2 : wr.cell? ⟨W3.heap.size, 2, none⟩ = some (.int .i64 (a : Int)) := by rw [Lib.cell_of_heap hfb, haz]; rfl
                have s1 : wr.cell? ⟨w.heap.size + 1, 1, none⟩ = some (.int .i64 (x : Int)) := by rw [Lib.cell_of_heap hsb]; rfl
                have hai : (a : Int) < n1 := by omega
                clear hM hrow hsb hfb HP0 hK hN hK' hN' hoa hrow3 hgb' hgs' ha haz hr0 hr1 hS hj hlt HPI HAO HA
                go_upto_region 37 with fail
                go_region_held3 (fun wx => wx.cell? ⟨sb, 0, none⟩ = some (.slice (some ⟨g, 0, none⟩) n1 cap) ∧ wx.cell? ⟨w.heap.size + 1, 1, none⟩ = some (.int .i64 (x : Int)) ∧ wx.cell? ⟨W3.heap.size, 2, none⟩ = some (.int .i64 (a : Int)) ∧ wx.cell? ⟨g, a * 2, none⟩ = some (.string K) ∧ wx.cell? ⟨g, a * 2 + 1, none⟩ = some (.int .i64 N))
                  ((go_split_ands; first | exact ⟨c0, s1, b2, d0, d1⟩ | exact ⟨o2 c0 n1', o2 s1 hn4, o2 b2 hn3, o2k d0, o2n d1⟩)) (fail)
                go_wp2_with fail
                refine bodyPost_end (results_none rfl _ _ _) rfl ?_
                exact ⟨rfl, _, _, by rw [HR.out]; exact HP.out.1.below (Below.refl _ _).drew, HP.out.2.drew⟩
      · have hg' : ¬ ((np : Int) = (na : Int)) := by omega
        go_wp2_with fail
        refine bodyPost_ret (results_none rfl _ _ _) rfl ?_
        have he : enterD f s x args = s := by unfold enterD; rw [if_neg (by rw [← HNA.out, ← HLP.out.1]; exact hg)]
        exact ⟨rfl, _, _, by rw [HR.out, he]; exact HS4.out, HB4.out⟩
end Go.Proofs.YtdbcjeccmjpbiabDoor

/-
  The document's (*State).Do of any statement of a right program; the references of a state stay there.
-/
namespace Go.Proofs.YtdbcjeccmjpbiabDoor
open Go.RowKit Go.Extern.Stop Go.Stop Go.Extern

theorem StOk.putN {n1 n2 : Nat} {s : StD} (h : StOk n1 n2 s) (ps args : List Int) (k : Nat) : StOk n1 n2 (putN s ps (givenD s args) k) := by
  induction k with
  | zero => exact h
  | succ k ih =>
    unfold Go.Proofs.YtdbcjeccmjpbiabDoor.putN
    refine ih.put _ ?_
    rw [putN_things]
    by_cases hk : k < args.length
    · rw [given_at s args k hk]; exact h.get _
    · intro x hx
      simp [givenD, List.getD, List.getElem?_eq_none (Nat.le_of_not_lt hk)] at hx
theorem StOk.enter {n1 n2 : Nat} {s : StD} (h : StOk n1 n2 s) (f : FunD) (x : Nat) (args : List Int) : StOk n1 n2 (enterD f s x args) := by
  unfold enterD
  split
  · exact (h.putN _ _ _).put _ ((h.putN _ _ _).get _)
  · exact h
theorem StOk.call {n1 n2 : Nat} {s : StD} (h : StOk n1 n2 s) (fs : List FunD) (x : Nat) (args : List Int) (c : Option Ref) : StOk n1 n2 (callD fs s x args c) := by
  rcases c with _ | i | i | i
  · exact h
  · exact h
  · exact h
  · exact h.enter _ _ _
theorem StOk.load {n1 n2 : Nat} {s : StD} (h : StOk n1 n2 s) (x : Nat) (o : Option Ref) : StOk n1 n2 (loadD s x o) := by
  cases o with
  | none => exact h
  | some r =>
    by_cases hf : r.isFn = true
    · have : loadD s x (some r) = s := by simp [loadD, hf]
      rw [this]; exact h
    · have : loadD s x (some r) = s.put (.var x) (s.get r) := by simp [loadD, hf]
      rw [this]
      exact h.put _ (h.get _)
theorem StOk.store {n1 n2 : Nat} {s : StD} (h : StOk n1 n2 s) {x : Option Ref} (hx : OkO n1 n2 s.things.length x) (o : Option Ref) : StOk n1 n2 (storeD s x o) := by
  cases o with
  | none => exact h
  | some r =>
    by_cases hf : r.isFn = true
    · have : storeD s x (some r) = s := by simp [storeD, hf]
      rw [this]; exact h
    · have : storeD s x (some r) = s.put r x := by simp [storeD, hf]
      rw [this]
      exact h.put _ hx
theorem okO_var {n1 n2 nt i : Nat} (h : i < n1) : OkO n1 n2 nt (some (.var i)) := fun x hx => by cases hx; exact h
theorem okO_fn {n1 n2 nt i : Nat} (h : i < n2) : OkO n1 n2 nt (some (.fn i)) := fun x hx => by cases hx; exact h
theorem okO_thing {n1 n2 nt i : Nat} (h : i < nt) : OkO n1 n2 nt (some (.thing i)) := fun x hx => by cases hx; exact h

theorem doR_any {w0 w : World} {Bt sb : Nat} {s : StD} {v1 v2 v3 xv xt xp : Value} (P : ProgD) (h : RSt w w0.heap.size Bt sb P.vars.length s xv xt xp) (ho : StOk P.vars.length P.funs.length s) (hw : Below w0.heap.size w0 w) (hP : IsProg w0 v1 v2 v3 P) (hr : Right P) (hs : SmallP P) (k : Nat) (hk : k < P.stmts.length) (hth : s.things.length ≤ 1000000) :
    Calls Tryd.prog 14 #[.pointer (some ⟨sb, 0, none⟩), .agg #[v1, v2, v3], .int .i64 (k : Int)] w fun e w' => e = .returned (.tuple #[]) ∧ StOk P.vars.length P.funs.length (stepD P s k) ∧ ∃ xt' xp', RSt w' w0.heap.size Bt sb P.vars.length (stepD P s k) xv xt' xp' ∧ Below w0.heap.size w w' := by
  have hF := hP.funs
  obtain ⟨a1, c1, rfl, -, -⟩ := hP.vars
  obtain ⟨a2, c2, rfl, -, -⟩ := hP.funs
  obtain ⟨tv, tc, rfl, -, hts⟩ := hP.stmts
  obtain ⟨tb, tq, rfl, av, q0, q1, q2, q3, hA, aa, ac, rfl, -⟩ := hts k hk
  have hst := hr.st _ (getDm hk)
  have hal := hs.2.2.2.2 _ (getDm hk)
  unfold stepD
  obtain ⟨st, hste⟩ : ∃ st, st = P.stmts.getD k default := ⟨_, rfl⟩
  rw [← hste] at q0 q1 q2 q3 hA hst hal ⊢
  obtain ⟨k1, k2, k3, k4, -, -, k7⟩ := stmt_parts hst
  obtain ⟨x0, x1⟩ := varB_parts k2
  have hx : st.x = (st.x.toNat : Int) := by omega
  have hxn : st.x.toNat < P.vars.length := by omega
  replace q0 := cell_keep hw q0
  replace q1 := cell_keep hw q1
  replace q2 := cell_keep hw q2
  replace q3 := cell_keep hw q3
  rw [hx] at q1
  have yv : st.kind ≠ kFun → st.kind ≠ kNew → st.y = (st.y.toNat : Int) ∧ st.y.toNat < P.vars.length := fun n1 n2 => by
    unfold yB at k3
    rw [if_neg (by simpa using n1), if_neg (by simpa using n2)] at k3
    obtain ⟨y0, y1⟩ := varB_parts k3
    omega
  have hao : ∀ j, j < st.args.length → 0 ≤ st.args.getD j 0 ∧ st.args.getD j 0 < (P.vars.length : Int) := fun j hj => varB_parts (all_at k4 j 0 hj)
  simp only [kinds, List.contains_cons, List.contains_nil, Bool.or_false, Bool.or_eq_true, beq_iff_eq] at k1
  unfold doStmt
  rcases k1 with e | e | e | e | e | e | e
  · obtain ⟨y0, yn⟩ := yv (by rw [e]; decide) (by rw [e]; decide)
    rw [if_pos e]
    rw [e] at q0
    rw [y0] at q2
    exact (doR_addr h k _ _ hk hxn q0 q1 q2 q3 yn).mono fun _ _ ⟨r1, r2⟩ => ⟨r1, ho.put _ (okO_var yn), r2⟩
  · obtain ⟨y0, yn⟩ := yv (by rw [e]; decide) (by rw [e]; decide)
    rw [if_neg (by rw [e]; decide), if_pos e]
    rw [e] at q0
    rw [y0] at q2
    exact (doR_copy h k _ _ hk hxn q0 q1 q2 q3 yn).mono fun _ _ ⟨r1, r2⟩ => ⟨r1, ho.put _ (ho.get _), r2⟩
  · obtain ⟨y0, yn⟩ := yv (by rw [e]; decide) (by rw [e]; decide)
    rw [if_neg (by rw [e]; decide), if_neg (by rw [e]; decide), if_pos e]
    rw [e] at q0
    rw [y0] at q2
    exact (doR_load h k _ _ hk hxn q0 q1 q2 q3 yn (ho.get _)).mono fun _ _ ⟨r1, r2⟩ => ⟨r1, ho.load _ _, r2⟩
  · obtain ⟨y0, yn⟩ := yv (by rw [e]; decide) (by rw [e]; decide)
    rw [if_neg (by rw [e]; decide), if_neg (by rw [e]; decide), if_neg (by rw [e]; decide), if_pos e]
    rw [e] at q0
    rw [y0] at q2
    exact (doR_store h k _ _ hk hxn q0 q1 q2 q3 yn (ho.get _)).mono fun _ _ ⟨r1, r2⟩ => ⟨r1, ho.store (ho.get _) _, r2⟩
  · rw [if_neg (by rw [e]; decide), if_neg (by rw [e]; decide), if_neg (by rw [e]; decide), if_neg (by rw [e]; decide), if_pos e]
    rw [e] at q0
    have y0 : st.y = (st.y.toNat : Int) := by
      have := k7 (by simpa using e)
      omega
    rw [y0] at q2
    exact (doR_new h k _ _ hk hxn q0 q1 q2 q3 hth).mono fun _ _ ⟨r1, r2⟩ => ⟨r1, (ho.addT _).put _ (okO_thing (by simp [addT])), r2⟩
  · have hy : st.y = (st.y.toNat : Int) ∧ st.y.toNat < P.funs.length := by
      unfold yB funB at k3
      rw [if_pos (by simpa using e)] at k3
      simp only [Bool.and_eq_true, decide_eq_true_eq] at k3
      omega
    obtain ⟨y0, yn⟩ := hy
    rw [if_neg (by rw [e]; decide), if_neg (by rw [e]; decide), if_neg (by rw [e]; decide), if_neg (by rw [e]; decide), if_neg (by rw [e]; decide), if_pos e]
    rw [e] at q0
    rw [y0] at q2
    exact (doR_fun h k _ _ hk hxn q0 q1 q2 q3).mono fun _ _ ⟨r1, r2⟩ => ⟨r1, ho.put _ (okO_fn yn), r2⟩
  · obtain ⟨y0, yn⟩ := yv (by rw [e]; decide) (by rw [e]; decide)
    rw [if_neg (by rw [e]; decide), if_neg (by rw [e]; decide), if_neg (by rw [e]; decide), if_neg (by rw [e]; decide), if_neg (by rw [e]; decide), if_neg (by rw [e]; decide)]
    rw [e] at q0
    rw [y0] at q2
    exact (doR_call h k _ _ hk hxn q0 q1 q2 q3 yn P.funs st.args (ho.get _) hw hF (fun i hi => fun_ok hr hs i hi) hA rfl (by omega) hao).mono fun _ _ ⟨r1, r2⟩ => ⟨r1, ho.call _ _ _ _, r2⟩
end Go.Proofs.YtdbcjeccmjpbiabDoor

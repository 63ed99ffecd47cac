/-
  The document's readLine: lines of variables.
-/
import Derived.Test.YtakmmpbkojhmhaaGreatDoorUC
import Derived.Test.YtakmmpbkojhmhaaGreatDoorUDM
import Derived.Deep.RegionHeld3
import Derived.Deep.RegionLaw
import Derived.Test.YtakmmpbkojhmhaaGreatDoorPZ8
namespace Go.Proofs.YtakmmpbkojhmhaaGreatDoor
open Go.RowKit Go.Extern.Stop Go.Stop Go.Extern

/-- What readLine tells of a line. -/
def LinePost (B : Nat) (w w' : World) (P : ProgD) (l : Bs) (e : Ending) : Prop :=
  ∃ a1 m1 n1 a2 m2 n2 a3 m3 n3, e = .returned (.tuple #[.agg #[.slice a1 m1 n1, .slice a2 m2 n2, .slice a3 m3 n3], .int .i64 (lineAt l), .int .i64 (lineEr P l)]) ∧
    (lineEr P l = 0 → ∃ pb ps qs, Rp w' B pb (lineQ P l) (.slice a1 m1 n1) (.slice a2 m2 n2) (.slice a3 m3 n3) ps qs) ∧ Below B w w' ∧ KP w w'
theorem below_au {w0 w : World} (h : Below w0.heap.size w0 w) (o : Obj) : Below w0.heap.size w0 (w.alloc o) := h.alloc h.size o
theorem keep1 {w0 w : World} {p : Addr} {v : Value} (k : w0.cell? p = some v) (hb : Below w0.heap.size w0 w) : Below w0.heap.size w0 w ∧ w.cell? p = some v := ⟨hb, cell_keep hb k⟩

set_option maxRecDepth 100000 in
set_option maxHeartbeats 8000000 in
theorem line_V {B : Nat} {P : ProgD} {v1 v2 v3 : Value} {ps qs : List Value} (l : Bs) (w : World) (hst : Rq w B P v1 v2 v3 ps qs) (hz : l.length ≤ 50000) (hS : SmallP P) (hp : Lib.hasPrefix l kv4 = true) :
    Calls Tryz.prog 80 #[.agg #[v1, v2, v3], .string (S l)] w fun e w' => LinePost B w w' P l e := by
  obtain ⟨a1, n1, rfl⟩ := owns_form hst.o1
  obtain ⟨a2, n2, rfl⟩ := owns_form hst.o2
  obtain ⟨a3, n3, rfl⟩ := owns_form hst.o3
  obtain ⟨m1, hm1⟩ : ∃ m, m = P.vars.length := ⟨_, rfl⟩
  obtain ⟨m2, hm2⟩ : ∃ m, m = P.funs.length := ⟨_, rfl⟩
  obtain ⟨m3, hm3⟩ : ∃ m, m = P.stmts.length := ⟨_, rfl⟩
  rw [← hm1, ← hm2, ← hm3] at hst ⊢
  have HMM : Hid (m1 = P.vars.length ∧ m2 = P.funs.length ∧ m3 = P.stmts.length) := ⟨hm1, hm2, hm3⟩
  have HSM : Hid (SmallP P) := hS
  obtain ⟨s, hs⟩ : ∃ s, s = S l := ⟨_, rfl⟩
  have hsl : s.data.toList = l := by rw [hs, S_data]
  have hsz : s.size = l.length := by rw [hs, S_size]
  have hsz2 : s.size ≤ 100000 := by omega
  rw [← hs]
  obtain ⟨W, hW⟩ : ∃ W, W = (w.alloc (.cells #[.slice a1 m1 n1, .slice a2 m2 n2, .slice a3 m3 n3] 43)).alloc zero3 := ⟨_, rfl⟩
  have hBW0 : Below w.heap.size w W := by rw [hW]; exact (below1 w _).alloc (by simp) _
  have HBW : Hid (Below w.heap.size w W ∧ B ≤ w.heap.size) := ⟨hBW0, hst.size⟩
  have HST : Hid (Rp W B w.heap.size P (.slice a1 m1 n1) (.slice a2 m2 n2) (.slice a3 m3 n3) ps qs) := by
    show Rp _ _ _ _ _ _ _ _ _
    rw [hW]; exact hst.rebox.below (below1 _ _)
  have HZB : Hid (W.heap[w.heap.size + 1]? = some zero3) := by
    show _ = _
    rw [hW]
    have := heap_new (w.alloc (.cells #[.slice a1 m1 n1, .slice a2 m2 n2, .slice a3 m3 n3] 43)) zero3
    simpa using this
  obtain ⟨c0, c1, c2⟩ := HST.out.cells
  have f0 := HST.out.frz 0
  have f1 := HST.out.frz 1
  have f2 := HST.out.frz 2
  have z0 : W.cell? ⟨w.heap.size + 1, 0, none⟩ = some (.slice none 0 0) := by rw [Lib.cell_of_heap HZB.out]; rfl
  have z1 : W.cell? ⟨w.heap.size + 1, 1, none⟩ = some (.slice none 0 0) := by rw [Lib.cell_of_heap HZB.out]; rfl
  have z2 : W.cell? ⟨w.heap.size + 1, 2, none⟩ = some (.slice none 0 0) := by rw [Lib.cell_of_heap HZB.out]; rfl
  have y0 := frozen_of_block HZB.out 0
  have y1 := frozen_of_block HZB.out 1
  have y2 := frozen_of_block HZB.out 2
  have K1 : Hid (∀ wx, Calls Tryz.prog 115 #[.string s, .string ⟨#[118, 97, 114, 32]⟩] wx fun e w' => e = .returned (.bool true) ∧ w' = wx) := fun wx => by
    have := refStarts_any l [118, 97, 114, 32] wx
    rw [← hs] at this
    rw [show Lib.hasPrefix l [118, 97, 114, 32] = true from hp] at this
    exact this
  have h4 : 4 ≤ s.size := by
    obtain ⟨r, hr⟩ := List.isPrefixOf_iff_prefix.1 hp
    rw [hsz, ← hr]; simp [kv4]
  have h4i : (4 : Int) ≤ s.size := by omega
  have hx4 : s.extract 4 s.size = S (l.drop 4) := by rw [extract_S, hsl, List.take_of_length_le]; simp; omega
  have HAT : Hid (lineAt l = 0) := by show _ = _; unfold lineAt; rw [if_pos hp]
  obtain ⟨D, hD⟩ : ∃ D, D = isNm (l.drop 4) := ⟨_, rfl⟩
  have K2 : Hid (∀ wx, Calls Tryz.prog 61 #[.string (s.extract 4 s.size)] wx fun e w' => e = .returned (.bool D) ∧ w' = wx) := fun wx => by
    rw [hx4, hD]; exact refName_any (l.drop 4) wx (by simp; omega)
  have HEV : Hid (lineEr P l = (if D then 0 else 1)) := by show _ = _; unfold lineEr varEr; rw [if_pos hp, hD]
  have HQ : Hid (lineQ P l = { P with vars := P.vars ++ [l.drop 4] }) := by show _ = _; unfold lineQ varQ; rw [if_pos hp]
  obtain ⟨v', w7, hr0, d0, d1, ⟨xa, xn, xc, rfl⟩, hSt, hBe, hkp⟩ := (HST.out.below (Below.refl _ W).drew).addVar (by have := hS.1; omega) (l.drop 4)
  rw [← hx4] at hr0
  have HR : Hid ((Builtin.append_ #[39, 39] 39 #[.slice a1 m1 n1, .slice (some ⟨W.heap.size, 0, none⟩) 1 1]).run Tryz.prog ((W.alloc (.cells #[.string (s.extract 4 s.size)] 9)).drew) = .ok (.slice xa xn xc) w7) := hr0
  have HS7 : Hid (Rp (w7.setCell ⟨w.heap.size, 0, none⟩ (.slice xa xn xc)) B w.heap.size { P with vars := P.vars ++ [l.drop 4] } (.slice xa xn xc) (.slice a2 m2 n2) (.slice a3 m3 n3) ps qs ∧ Below B w (w7.setCell ⟨w.heap.size, 0, none⟩ (.slice xa xn xc)) ∧ KP w (w7.setCell ⟨w.heap.size, 0, none⟩ (.slice xa xn xc))) := ⟨hSt, (HBW.out.1.mono HBW.out.2).drew.trans hBe, kp_set (kp_kept HBW.out.1.drew hkp (by decide)) (Nat.le_refl _)⟩
  have HZ7 : Hid ((w7.setCell ⟨w.heap.size, 0, none⟩ (.slice xa xn xc)).heap[w.heap.size + 1]? = some zero3) := by
    show _ = _
    rw [other_block (by omega)]; exact hkp _ _ _ _ (show W.drew.heap[w.heap.size + 1]? = some zero3 from HZB.out) (by decide)
  clear hr0 hSt hBe hkp hx4 hD hp
  clear hst hm1 hm2 hm3 hS hs hsl hsz hz hBW0
  go_enter Tryz.func80, Tryz.ntmps80
  go_wp2_with fail
  rw [← hW]
  clear hW
  refine (K1.out _).mono ?_
  rintro e wq ⟨rfl, hwq⟩
  obtain rfl := hwq.symm
  clear hwq K1
  go_wp2_with fail
  refine (K2.out _).mono ?_
  rintro e wq ⟨rfl, hwq⟩
  obtain rfl := hwq.symm
  clear hwq K2
  cases D with
  | false =>
    have HER : Hid (lineEr P l = 1) := HEV.out
    have HZW := HZB
    clear HR HS7 HZ7 d0 d1
    go_wp2_with fail
    have hres := res_cells (HZW.out) (.slice a1 m1 n1) (.slice a2 m2 n2) (.slice a3 m3 n3)
    obtain ⟨r0, r1, r2⟩ := hres
    refine bodyPost_ret (v := .tuple #[.agg #[.slice a1 m1 n1, .slice a2 m2 n2, .slice a3 m3 n3], .int .i64 0, .int .i64 1]) (by simp [results, Tryz.results80, go_sem, r0, r1, r2]) rfl ?_
    exact ⟨a1, m1, n1, a2, m2, n2, a3, m3, n3, by rw [HAT.out, HER.out], fun q => absurd (HER.out.symm.trans q) (by decide), line_bad HBW.out.2 HBW.out.1 _ _ _⟩
  | true =>
    have HER : Hid (lineEr P l = 0) := HEV.out
    clear y0 y1 y2 z0 z1 z2
    go_wp2_with fail
    go_region_held3 (fun wx => wx.cell? ⟨w.heap.size, 0, none⟩ = some (.slice a1 m1 n1))
      ((first | exact d0 | exact c0 | (refine cell_keep ?_ c0; repeat (with_reducible first | assumption | exact Below.refl _ _ | refine Below.drew ?_ | refine below_au ?_ _))))
      ((refine step_append_run rfl (.tmp 41) (.tmp 44) _ _ rfl _ _ rfl rfl _ _ HR.out ?_))
    go_upto_region 7 with fail
    obtain ⟨W7, hW7⟩ : ∃ W7, W7 = w7.setCell ⟨w.heap.size, 0, none⟩ (.slice xa xn xc) := ⟨_, rfl⟩
    rw [← hW7] at HS7 HZ7 ⊢
    clear hW7
    obtain ⟨k0, k1, k2⟩ := HS7.out.1.cells
    have z0 : W7.cell? ⟨w.heap.size + 1, 0, none⟩ = some (.slice none 0 0) := by rw [Lib.cell_of_heap HZ7.out]; rfl
    have z1 : W7.cell? ⟨w.heap.size + 1, 1, none⟩ = some (.slice none 0 0) := by rw [Lib.cell_of_heap HZ7.out]; rfl
    have z2 : W7.cell? ⟨w.heap.size + 1, 2, none⟩ = some (.slice none 0 0) := by rw [Lib.cell_of_heap HZ7.out]; rfl
    have y0 := frozen_of_block HZ7.out 0
    have y1 := frozen_of_block HZ7.out 1
    have y2 := frozen_of_block HZ7.out 2
    go_wp2_with fail
    obtain ⟨r0, r1, r2⟩ := res_cells (HZ7.out) (.slice xa xn xc) (.slice a2 m2 n2) (.slice a3 m3 n3)
    refine bodyPost_ret (v := .tuple #[.agg #[.slice xa xn xc, .slice a2 m2 n2, .slice a3 m3 n3], .int .i64 0, .int .i64 0]) (by simp [results, Tryz.results80, go_sem, r0, r1, r2]) rfl ?_
    exact ⟨_, _, _, _, _, _, _, _, _, by rw [HAT.out, HER.out], fun _ => ⟨_, _, _, by rw [HQ.out]; exact HS7.out.1.set3 HZ7.out (by omega) _ _ _⟩, line_good HBW.out.2 HS7.out.2 _ _ _⟩
end Go.Proofs.YtakmmpbkojhmhaaGreatDoor

/-
  The document's readLine: lines of functions.
-/
namespace Go.Proofs.YtakmmpbkojhmhaaGreatDoor
open Go.RowKit Go.Extern.Stop Go.Stop Go.Extern

theorem keep3u {w0 w : World} {p0 p1 p2 : Addr} {v0 v1 v2 : Value} (k0 : w0.cell? p0 = some v0) (k1 : w0.cell? p1 = some v1) (k2 : w0.cell? p2 = some v2) (hb : Below w0.heap.size w0 w) : Below w0.heap.size w0 w ∧ w.cell? p0 = some v0 ∧ w.cell? p1 = some v1 ∧ w.cell? p2 = some v2 :=
  ⟨hb, cell_keep hb k0, cell_keep hb k1, cell_keep hb k2⟩
theorem keep2u {w0 w : World} {p0 p1 : Addr} {v0 v1 : Value} (k0 : w0.cell? p0 = some v0) (k1 : w0.cell? p1 = some v1) (hb : Below w0.heap.size w0 w) : Below w0.heap.size w0 w ∧ w.cell? p0 = some v0 ∧ w.cell? p1 = some v1 :=
  ⟨hb, cell_keep hb k0, cell_keep hb k1⟩
theorem cut_len2 (s t : Bs) : (Lib.cut s t).1.length ≤ s.length ∧ (Lib.cut s t).2.1.length ≤ s.length := by
  unfold Lib.cut
  split
  · simp; omega
  · simp
theorem split_len (k : Nat) (s : Bs) : ∀ x ∈ Lib.splitK sep 0 k s, x.length ≤ s.length := by
  induction k generalizing s with
  | zero => intro x hx; rw [Lib.splitK, List.mem_singleton] at hx; rw [hx]; exact Nat.le_refl _
  | succ k ih =>
    intro x hx
    unfold Lib.splitK at hx
    split at hx
    · rw [List.mem_singleton] at hx; rw [hx]; exact Nat.le_refl _
    · rcases List.mem_cons.1 hx with rfl | hx
      · simp; omega
      · have := ih _ x hx
        simp at this; omega
theorem split_count (k : Nat) (s : Bs) : (Lib.splitK sep 0 k s).length ≤ k + 1 := by
  induction k generalizing s with
  | zero => rw [Lib.splitK]; simp
  | succ k ih =>
    unfold Lib.splitK
    split
    · simp
    · simp; exact ih _
theorem listL_many (r : Bs) : (listL r).length ≤ r.length + 2 := by
  unfold listL
  split
  · simp
  · unfold Lib.split
    have h1 := split_count (Lib.count (listI r) sep) (listI r)
    have h2 := Lib.count_le (listI r) sep
    have h3 : (listI r).length ≤ r.length := Nat.le_trans (cut_len2 _ [41]).1 (cut_len2 r [40]).2
    omega
theorem listL_each (r : Bs) : ∀ x ∈ listL r, x.length ≤ r.length := by
  intro x hx
  unfold listL at hx
  split at hx
  · cases hx
  · exact Nat.le_trans (split_len _ _ x hx) (Nat.le_trans (cut_len2 _ [41]).1 (cut_len2 r [40]).2)
theorem pre_size {l p : Bs} (h : Lib.hasPrefix l p = true) : p.length ≤ l.length := by
  obtain ⟨r, hr⟩ := List.isPrefixOf_iff_prefix.1 h
  rw [← hr]; simp

set_option maxRecDepth 100000 in
set_option maxHeartbeats 8000000 in
theorem line_F0 {B : Nat} {P : ProgD} {v1 v2 v3 : Value} {ps qs : List Value} (l : Bs) (w : World) (hst : Rq w B P v1 v2 v3 ps qs) (hz : l.length ≤ 50000) (hS : SmallP P) (hv : Lib.hasPrefix l kv4 = false) (hp : Lib.hasPrefix l kf3 = true) (hno : listF (l.drop 3) = false) :
    Calls Tryz.prog 80 #[.agg #[v1, v2, v3], .string (S l)] w fun e w' => LinePost B w w' P l e := by
  obtain ⟨a1, n1, rfl⟩ := owns_form hst.o1
  obtain ⟨a2, n2, rfl⟩ := owns_form hst.o2
  obtain ⟨a3, n3, rfl⟩ := owns_form hst.o3
  obtain ⟨m1, hm1⟩ : ∃ m, m = P.vars.length := ⟨_, rfl⟩
  obtain ⟨m2, hm2⟩ : ∃ m, m = P.funs.length := ⟨_, rfl⟩
  obtain ⟨m3, hm3⟩ : ∃ m, m = P.stmts.length := ⟨_, rfl⟩
  rw [← hm1, ← hm2, ← hm3] at hst ⊢
  have HMM : Hid (m1 = P.vars.length ∧ m2 = P.funs.length ∧ m3 = P.stmts.length) := ⟨hm1, hm2, hm3⟩
  have HSM : Hid (SmallP P) := hS
  obtain ⟨s, hs⟩ : ∃ s, s = S l := ⟨_, rfl⟩
  have hsl : s.data.toList = l := by rw [hs, S_data]
  have hsz : s.size = l.length := by rw [hs, S_size]
  have hsz2 : s.size ≤ 100000 := by omega
  rw [← hs]
  obtain ⟨W, hW⟩ : ∃ W, W = (w.alloc (.cells #[.slice a1 m1 n1, .slice a2 m2 n2, .slice a3 m3 n3] 43)).alloc zero3 := ⟨_, rfl⟩
  have hBW0 : Below w.heap.size w W := by rw [hW]; exact (below1 w _).alloc (by simp) _
  have HBW : Hid (Below w.heap.size w W ∧ B ≤ w.heap.size) := ⟨hBW0, hst.size⟩
  have HST : Hid (Rp W B w.heap.size P (.slice a1 m1 n1) (.slice a2 m2 n2) (.slice a3 m3 n3) ps qs) := by
    show Rp _ _ _ _ _ _ _ _ _
    rw [hW]; exact hst.rebox.below (below1 _ _)
  have HZB : Hid (W.heap[w.heap.size + 1]? = some zero3) := by
    show _ = _
    rw [hW]
    have := heap_new (w.alloc (.cells #[.slice a1 m1 n1, .slice a2 m2 n2, .slice a3 m3 n3] 43)) zero3
    simpa using this
  obtain ⟨c0, c1, c2⟩ := HST.out.cells
  have f0 := HST.out.frz 0
  have f1 := HST.out.frz 1
  have f2 := HST.out.frz 2
  have z0 : W.cell? ⟨w.heap.size + 1, 0, none⟩ = some (.slice none 0 0) := by rw [Lib.cell_of_heap HZB.out]; rfl
  have z1 : W.cell? ⟨w.heap.size + 1, 1, none⟩ = some (.slice none 0 0) := by rw [Lib.cell_of_heap HZB.out]; rfl
  have z2 : W.cell? ⟨w.heap.size + 1, 2, none⟩ = some (.slice none 0 0) := by rw [Lib.cell_of_heap HZB.out]; rfl
  have y0 := frozen_of_block HZB.out 0
  have y1 := frozen_of_block HZB.out 1
  have y2 := frozen_of_block HZB.out 2
  have K1 : Hid (∀ wx, Calls Tryz.prog 115 #[.string s, .string ⟨#[118, 97, 114, 32]⟩] wx fun e w' => e = .returned (.bool false) ∧ w' = wx) := fun wx => by
    have := refStarts_any l [118, 97, 114, 32] wx
    rw [← hs] at this
    rw [show Lib.hasPrefix l [118, 97, 114, 32] = false from hv] at this
    exact this
  have K2 : Hid (∀ wx, Calls Tryz.prog 115 #[.string s, .string ⟨#[102, 110, 32]⟩] wx fun e w' => e = .returned (.bool true) ∧ w' = wx) := fun wx => by
    have := refStarts_any l [102, 110, 32] wx
    rw [← hs] at this
    rw [show Lib.hasPrefix l [102, 110, 32] = true from hp] at this
    exact this
  have h3 : 3 ≤ s.size := by rw [hsz]; exact pre_size hp
  obtain ⟨r, hr⟩ : ∃ r, r = l.drop 3 := ⟨_, rfl⟩
  have hx3 : s.extract 3 s.size = S r := by rw [extract_S, hsl, hr, List.take_of_length_le]; simp; omega
  have hrl : r.length ≤ 50000 := by rw [hr]; simp; omega
  have HAT : Hid (lineAt l = 1) := by show _ = _; unfold lineAt; rw [if_neg (by rw [hv]; decide), if_pos hp]
  have hER : lineEr P l = funEr P r := by unfold lineEr; rw [if_neg (by rw [hv]; decide), if_pos hp, hr]
  have hQ : lineQ P l = funQ P r := by unfold lineQ; rw [if_neg (by rw [hv]; decide), if_pos hp, hr]
  rw [← hr] at hno
  have K3 : Hid (∀ wx, Calls Tryz.prog 116 #[.string (s.extract 3 s.size)] wx fun e w' => e = .returned (.tuple #[.string ⟨#[]⟩, .slice none 0 0, .string ⟨#[]⟩, .bool false]) ∧ w' = wx) := fun wx => by
    rw [hx3]
    refine (refListOf_any r wx (by omega)).mono fun e w' h => ?_
    rcases h with ⟨-, h⟩ | ⟨h, -⟩
    · exact h
    · rw [hno] at h; cases h
  have K4 : Hid (∀ wx, Calls Tryz.prog 61 #[.string ⟨#[]⟩] wx fun e w' => e = .returned (.bool false) ∧ w' = wx) := fun wx => refName_any [] wx (by simp)
  have HER : Hid (lineEr P l = 1) := by show _ = _; rw [hER]; unfold funEr; rw [hno]; rfl
  have HZW := HZB
  clear hER hQ hr hx3 hv hp hno
  clear hst hm1 hm2 hm3 hS hs hsl hsz hz hBW0
  go_enter Tryz.func80, Tryz.ntmps80
  go_wp2_with fail
  rw [← hW]
  clear hW
  refine (K1.out _).mono ?_
  rintro e wq ⟨rfl, hwq⟩
  obtain rfl := hwq.symm
  clear hwq K1
  go_wp2_with fail
  refine (K2.out _).mono ?_
  rintro e wq ⟨rfl, hwq⟩
  obtain rfl := hwq.symm
  clear hwq K2
  go_wp2_with fail
  refine (K3.out _).mono ?_
  rintro e wq ⟨rfl, hwq⟩
  obtain rfl := hwq.symm
  clear hwq K3
  go_wp2_with fail
  refine (K4.out _).mono ?_
  rintro e wq ⟨rfl, hwq⟩
  obtain rfl := hwq.symm
  clear hwq K4
  go_wp2_with fail
  have hres := res_cells (HZW.out) (.slice a1 m1 n1) (.slice a2 m2 n2) (.slice a3 m3 n3)
  obtain ⟨r0, r1, r2⟩ := hres
  refine bodyPost_ret (v := .tuple #[.agg #[.slice a1 m1 n1, .slice a2 m2 n2, .slice a3 m3 n3], .int .i64 1, .int .i64 1]) (by simp [results, Tryz.results80, go_sem, r0, r1, r2]) rfl ?_
  exact ⟨a1, m1, n1, a2, m2, n2, a3, m3, n3, by rw [HAT.out, HER.out], fun q => absurd (HER.out.symm.trans q) (by decide), line_bad HBW.out.2 HBW.out.1 _ _ _⟩

set_option maxRecDepth 100000 in
set_option maxHeartbeats 8000000 in
theorem line_F1 {B : Nat} {P : ProgD} {v1 v2 v3 : Value} {ps qs : List Value} (l : Bs) (w : World) (hst : Rq w B P v1 v2 v3 ps qs) (hz : l.length ≤ 50000) (hS : SmallP P) (hv : Lib.hasPrefix l kv4 = false) (hp : Lib.hasPrefix l kf3 = true) (hyes : listF (l.drop 3) = true) :
    Calls Tryz.prog 80 #[.agg #[v1, v2, v3], .string (S l)] w fun e w' => LinePost B w w' P l e := by
  obtain ⟨a1, n1, rfl⟩ := owns_form hst.o1
  obtain ⟨a2, n2, rfl⟩ := owns_form hst.o2
  obtain ⟨a3, n3, rfl⟩ := owns_form hst.o3
  obtain ⟨m1, hm1⟩ : ∃ m, m = P.vars.length := ⟨_, rfl⟩
  obtain ⟨m2, hm2⟩ : ∃ m, m = P.funs.length := ⟨_, rfl⟩
  obtain ⟨m3, hm3⟩ : ∃ m, m = P.stmts.length := ⟨_, rfl⟩
  rw [← hm1, ← hm2, ← hm3] at hst ⊢
  have HMM : Hid (m1 = P.vars.length ∧ m2 = P.funs.length ∧ m3 = P.stmts.length) := ⟨hm1, hm2, hm3⟩
  have HSM : Hid (SmallP P) := hS
  obtain ⟨s, hs⟩ : ∃ s, s = S l := ⟨_, rfl⟩
  have hsl : s.data.toList = l := by rw [hs, S_data]
  have hsz : s.size = l.length := by rw [hs, S_size]
  have hsz2 : s.size ≤ 100000 := by omega
  rw [← hs]
  obtain ⟨W, hW⟩ : ∃ W, W = (w.alloc (.cells #[.slice a1 m1 n1, .slice a2 m2 n2, .slice a3 m3 n3] 43)).alloc zero3 := ⟨_, rfl⟩
  have hBW0 : Below w.heap.size w W := by rw [hW]; exact (below1 w _).alloc (by simp) _
  have HBW : Hid (Below w.heap.size w W ∧ B ≤ w.heap.size) := ⟨hBW0, hst.size⟩
  have HST : Hid (Rp W B w.heap.size P (.slice a1 m1 n1) (.slice a2 m2 n2) (.slice a3 m3 n3) ps qs) := by
    show Rp _ _ _ _ _ _ _ _ _
    rw [hW]; exact hst.rebox.below (below1 _ _)
  have HZB : Hid (W.heap[w.heap.size + 1]? = some zero3) := by
    show _ = _
    rw [hW]
    have := heap_new (w.alloc (.cells #[.slice a1 m1 n1, .slice a2 m2 n2, .slice a3 m3 n3] 43)) zero3
    simpa using this
  obtain ⟨c0, c1, c2⟩ := HST.out.cells
  have f0 := HST.out.frz 0
  have f1 := HST.out.frz 1
  have f2 := HST.out.frz 2
  have z0 : W.cell? ⟨w.heap.size + 1, 0, none⟩ = some (.slice none 0 0) := by rw [Lib.cell_of_heap HZB.out]; rfl
  have z1 : W.cell? ⟨w.heap.size + 1, 1, none⟩ = some (.slice none 0 0) := by rw [Lib.cell_of_heap HZB.out]; rfl
  have z2 : W.cell? ⟨w.heap.size + 1, 2, none⟩ = some (.slice none 0 0) := by rw [Lib.cell_of_heap HZB.out]; rfl
  have y0 := frozen_of_block HZB.out 0
  have y1 := frozen_of_block HZB.out 1
  have y2 := frozen_of_block HZB.out 2
  have K1 : Hid (∀ wx, Calls Tryz.prog 115 #[.string s, .string ⟨#[118, 97, 114, 32]⟩] wx fun e w' => e = .returned (.bool false) ∧ w' = wx) := fun wx => by
    have := refStarts_any l [118, 97, 114, 32] wx
    rw [← hs] at this
    rw [show Lib.hasPrefix l [118, 97, 114, 32] = false from hv] at this
    exact this
  have K2 : Hid (∀ wx, Calls Tryz.prog 115 #[.string s, .string ⟨#[102, 110, 32]⟩] wx fun e w' => e = .returned (.bool true) ∧ w' = wx) := fun wx => by
    have := refStarts_any l [102, 110, 32] wx
    rw [← hs] at this
    rw [show Lib.hasPrefix l [102, 110, 32] = true from hp] at this
    exact this
  have h3 : 3 ≤ s.size := by rw [hsz]; exact pre_size hp
  obtain ⟨r, hr⟩ : ∃ r, r = l.drop 3 := ⟨_, rfl⟩
  have hx3 : s.extract 3 s.size = S r := by rw [extract_S, hsl, hr, List.take_of_length_le]; simp; omega
  have hrl : r.length ≤ 50000 := by rw [hr]; simp; omega
  have HAT : Hid (lineAt l = 1) := by show _ = _; unfold lineAt; rw [if_neg (by rw [hv]; decide), if_pos hp]
  have hER : lineEr P l = funEr P r := by unfold lineEr; rw [if_neg (by rw [hv]; decide), if_pos hp, hr]
  have hQ : lineQ P l = funQ P r := by unfold lineQ; rw [if_neg (by rw [hv]; decide), if_pos hp, hr]
  rw [← hr] at hyes
  obtain ⟨N, hN⟩ : ∃ N, N = listN r := ⟨_, rfl⟩
  obtain ⟨R, hR⟩ : ∃ R, R = listB r := ⟨_, rfl⟩
  obtain ⟨L, hL⟩ : ∃ L, L = listL r := ⟨_, rfl⟩
  have lN : N.length ≤ 100000 := by rw [hN]; have := (cut_len2 r [40]).1; unfold listN; omega
  have lR : R.length ≤ 100000 := by rw [hR]; have h1 := (cut_len2 (Lib.cut r [40]).2.1 [41]).2; have h2 := (cut_len2 r [40]).2; unfold listB; omega
  obtain ⟨bN, hbN⟩ : ∃ b, b = S N := ⟨_, rfl⟩
  obtain ⟨bR, hbR⟩ : ∃ b, b = S R := ⟨_, rfl⟩
  have K3 : Hid (∀ wx, Calls Tryz.prog 116 #[.string (s.extract 3 s.size)] wx fun e w' => ∃ v, e = .returned (.tuple #[.string bN, v, .string bR, .bool true]) ∧ w'.ownsRow wx.heap.size 9 1 v L.length (L.map strV) ∧ L.length ≤ 100001 ∧ Below wx.heap.size wx w') := fun wx => by
    rw [hx3, hbN, hbR, hN, hR, hL]
    refine (refListOf_any r wx (by omega)).mono fun e w' h => ?_
    rcases h with ⟨h, -⟩ | ⟨-, h⟩
    · rw [hyes] at h; cases h
    · exact h
  obtain ⟨D, hD⟩ : ∃ D, D = isNm N := ⟨_, rfl⟩
  have K4 : Hid (∀ wx, Calls Tryz.prog 61 #[.string bN] wx fun e w' => e = .returned (.bool D) ∧ w' = wx) := fun wx => by
    rw [hbN, hD]; exact refName_any N wx (by omega)
  have HEV : Hid (lineEr P l = if !D || R.isEmpty then 1 else if !(R.headD 0 == 32) then 1 else lookE P.vars (L ++ [R.drop 1])) := by
    show _ = _
    rw [hER]; unfold funEr
    rw [hyes, hD, hN, hR, hL]; rfl
  have HQ : Hid (lineQ P l = { P with funs := P.funs ++ [⟨N, L.map (idx P.vars), idx P.vars (R.drop 1)⟩] }) := by
    show _ = _
    rw [hQ]; unfold funQ
    rw [hN, hR, hL]
  have HBN : Hid (bN = S N ∧ bR = S R ∧ R.length ≤ 100000) := ⟨hbN, hbR, lR⟩
  have hbz : bR.size = R.length := by rw [hbR, S_size]
  have HBZ : Hid (bR.size = R.length) := hbz
  have hLn : L.length ≤ 50002 := by rw [hL]; have := listL_many r; omega
  have HLL : Hid (∀ x ∈ L, x.length ≤ 100000) := fun x hx => by rw [hL] at hx; exact Nat.le_trans (listL_each r x hx) (by omega)
  have hbz2 : bR.size ≤ 100000 := by omega
  clear hER hQ hr hx3 hv hp hyes hN hR hL hD hbN hbR hbz lN lR hrl
  clear hst hm1 hm2 hm3 hS hs hsl hsz hz hBW0
  go_enter Tryz.func80, Tryz.ntmps80
  go_wp2_with fail
  rw [← hW]
  clear hW
  refine (K1.out _).mono ?_
  rintro e wq ⟨rfl, hwq⟩
  obtain rfl := hwq.symm
  clear hwq K1
  go_wp2_with fail
  refine (K2.out _).mono ?_
  rintro e wq ⟨rfl, hwq⟩
  obtain rfl := hwq.symm
  clear hwq K2
  go_wp2_with fail
  refine (K3.out _).mono ?_
  rintro e w3 ⟨lv, rfl, hlv, hlL, hB3⟩
  obtain ⟨la, lc, rfl⟩ := owns_form hlv
  have HLV : Hid (IsStrs w3 (.slice la L.length lc) L) := isStrs_of_owns hlv
  have HB3 : Hid (Below W.heap.size W w3) := hB3
  have HB3w : Hid (Below w.heap.size w w3) := HBW.out.1.trans (hB3.mono HBW.out.1.size)
  replace c0 := cell_keep hB3 c0
  replace c1 := cell_keep hB3 c1
  replace c2 := cell_keep hB3 c2
  have HZW : Hid (w3.heap[w.heap.size + 1]? = some zero3) := block_keep hB3 HZB.out
  replace z0 := cell_keep hB3 z0
  replace z1 := cell_keep hB3 z1
  replace z2 := cell_keep hB3 z2
  replace y0 := frozen_of_block HZW.out 0
  replace y1 := frozen_of_block HZW.out 1
  replace y2 := frozen_of_block HZW.out 2
  have HST3 : Hid (Rp w3 B w.heap.size P (.slice a1 m1 n1) (.slice a2 m2 n2) (.slice a3 m3 n3) ps qs) := HST.out.below hB3
  clear K3 hlv hB3 f0 f1 f2
  go_wp2_with fail
  refine (K4.out _).mono ?_
  rintro e wq ⟨rfl, hwq⟩
  obtain rfl := hwq.symm
  clear hwq K4
  cases D with
  | false =>
    have HER : Hid (lineEr P l = 1) := HEV.out
    go_wp2_with fail
    have hres := res_cells (HZW.out) (.slice a1 m1 n1) (.slice a2 m2 n2) (.slice a3 m3 n3)
    obtain ⟨r0, r1, r2⟩ := hres
    refine bodyPost_ret (v := .tuple #[.agg #[.slice a1 m1 n1, .slice a2 m2 n2, .slice a3 m3 n3], .int .i64 1, .int .i64 1]) (by simp [results, Tryz.results80, go_sem, r0, r1, r2]) rfl ?_
    exact ⟨a1, m1, n1, a2, m2, n2, a3, m3, n3, by rw [HAT.out, HER.out], fun q => absurd (HER.out.symm.trans q) (by decide), line_bad HBW.out.2 HB3w.out _ _ _⟩
  | true =>
  by_cases hr0 : bR.size = 0
  · have hRe : R = [] := List.eq_nil_of_length_eq_zero (by rw [← HBZ.out]; exact hr0)
    have HER : Hid (lineEr P l = 1) := by show _ = _; rw [HEV.out, hRe]; rfl
    have hr1 : (bR.size : Int) < 1 := by omega
    clear hRe hr0
    go_wp2_with fail
    have hres := res_cells (HZW.out) (.slice a1 m1 n1) (.slice a2 m2 n2) (.slice a3 m3 n3)
    obtain ⟨r0, r1, r2⟩ := hres
    refine bodyPost_ret (v := .tuple #[.agg #[.slice a1 m1 n1, .slice a2 m2 n2, .slice a3 m3 n3], .int .i64 1, .int .i64 1]) (by simp [results, Tryz.results80, go_sem, r0, r1, r2]) rfl ?_
    exact ⟨a1, m1, n1, a2, m2, n2, a3, m3, n3, by rw [HAT.out, HER.out], fun q => absurd (HER.out.symm.trans q) (by decide), line_bad HBW.out.2 HB3w.out _ _ _⟩
  have hr1 : ¬ (bR.size : Int) < 1 := by omega
  have hr2 : 0 < bR.size := by omega
  have hRne : R.isEmpty = false := by
    cases e : R with
    | nil => have := HBZ.out; rw [e] at this; exact absurd this hr0
    | cons x y => rfl
  have hR0 : R.headD 0 = (bR[0]'hr2) := by
    show _ = bR.data.toList[0]'_
    have : bR.data.toList = R := by rw [HBN.out.2.1, S_data]
    cases e : R with
    | nil => rw [e] at hRne; cases hRne
    | cons x y => simp [this, e]
  cases hcc : (((bR[0]'hr2).toNat : Int) != 32) with
  | true =>
    have HER : Hid (lineEr P l = 1) := by
      show _ = _
      rw [HEV.out, hRne, hR0]
      have : ((bR[0]'hr2) == 32) = false := by
        rw [beq_eq_false_iff_ne]; intro q; rw [q] at hcc; cases hcc
      rw [this]; rfl
    clear hRne hR0
    go_wp2_with fail
    have hres := res_cells (HZW.out) (.slice a1 m1 n1) (.slice a2 m2 n2) (.slice a3 m3 n3)
    obtain ⟨r0, r1, r2⟩ := hres
    refine bodyPost_ret (v := .tuple #[.agg #[.slice a1 m1 n1, .slice a2 m2 n2, .slice a3 m3 n3], .int .i64 1, .int .i64 1]) (by simp [results, Tryz.results80, go_sem, r0, r1, r2]) rfl ?_
    exact ⟨a1, m1, n1, a2, m2, n2, a3, m3, n3, by rw [HAT.out, HER.out], fun q => absurd (HER.out.symm.trans q) (by decide), line_bad HBW.out.2 HB3w.out _ _ _⟩
  | false =>
    have HER1 : Hid (lineEr P l = lookE P.vars (L ++ [R.drop 1])) := by
      show _ = _
      rw [HEV.out, hRne, hR0]
      have : ((bR[0]'hr2) == 32) = true := by
        rw [beq_iff_eq]
        have h2 : (((bR[0]'hr2).toNat : Int) = 32) := by simpa using hcc
        exact UInt8.toNat_inj.1 (by have q : (32 : UInt8).toNat = 32 := rfl; omega)
      rw [this]; rfl
    have hx1 : bR.extract 1 bR.size = S (R.drop 1) := by
      rw [extract_S, HBN.out.2.1, S_data, List.take_of_length_le]; rw [S_size]; simp
    obtain ⟨la', lc', elv, hcl⟩ := isStrs_row HLV.out
    have hll : (L.map strV).length = L.length := by simp
    obtain ⟨v14, w5, hr5, ho5, hb5⟩ := own_row w3 39 9 (.string ⟨#[]⟩) 16 Tryz.underlying39 Tryz.infoString (by decide) rfl la lc (L.map strV) (by rw [hll] at elv; cases elv; exact hcl) (fun u hu => by obtain ⟨y, _, rfl⟩ := List.mem_map.1 hu; rfl) (by rw [hll]; omega) 39
    rw [hll] at hr5 ho5
    obtain ⟨wa, wc, rfl⟩ := owns_form ho5
    have HB5 : Hid (Below W.heap.size W w5) := HB3.out.trans (hb5.mono HB3.out.size)
    have HB5w : Hid (Below w.heap.size w w5) := HB3w.out.trans (hb5.mono HB3w.out.size)
    obtain ⟨v86, w6, hr6, ho6, hb6⟩ := append_str (w5.drew) w3.heap.size (.slice wa L.length wc) L (owns_below ho5 (Below.refl _ _).drew) (by simpa using hb5.size) (by omega) (R.drop 1) 39
    obtain ⟨ga, gc, rfl⟩ := owns_form ho6
    obtain ⟨X, hX⟩ : ∃ X, X = L ++ [R.drop 1] := ⟨_, rfl⟩
    have hXl : X.length = L.length + 1 := by rw [hX]; simp
    rw [← hX] at ho6 hr6 HER1
    rw [hXl] at hr6 ho6
    have HB36 : Hid (Below w3.heap.size w3 w6) := hb5.drew.trans hb6
    have hsw : w.heap.size ≤ w3.heap.size := HB3w.out.size
    have HSW : Hid (w.heap.size ≤ w3.heap.size) := hsw
    obtain ⟨E, hE⟩ : ∃ E, E = lookE P.vars X := ⟨_, rfl⟩
    have KU : Hid (Calls Tryz.prog 117 #[.agg #[.slice a1 m1 n1, .slice a2 m2 n2, .slice a3 m3 n3], .slice ga (L.length + 1) gc] w6 fun e w' => ∃ v', e = .returned (.tuple #[v', .int .i64 E]) ∧ (E = 0 → w'.ownsRow w6.heap.size 3 1 v' (L.length + 1) ((X.map (idx P.vars)).map intV)) ∧ Below w6.heap.size w6 w') := by
      have := refLookUp_any P X (.slice ga (L.length + 1) gc) (.slice a1 m1 n1) (.slice a2 m2 n2) (.slice a3 m3 n3) w6 HSM.out (by rw [hXl]; omega) (fun x hx => by
        rw [hX] at hx
        rcases List.mem_append.1 hx with q | q
        · exact Nat.le_trans (HLL.out x q) (by omega)
        · rw [List.mem_singleton.1 q]; have := HBN.out.2.2; simp; omega) (HST3.out.below HB36.out).isProg (isStrs_of_owns ho6)
      rw [← hE, hXl] at this
      exact this
    have HR6 : Hid ((Builtin.append_ #[39, 39] 39 #[.slice wa L.length wc, .slice (some ⟨w5.heap.size, 0, none⟩) 1 1]).run Tryz.prog ((w5.alloc (.cells #[.string (bR.extract 1 bR.size)] 9)).drew) = .ok (.slice ga (L.length + 1) gc) w6) := by rw [hx1]; exact hr6
    have HE : Hid (E = lookE P.vars X ∧ X = L ++ [R.drop 1]) := ⟨hE, hX⟩
    have hr3 : (1 : Int) ≤ bR.size := by omega
    clear hr6 ho6 hb6 hx1 hX hXl hE ho5 hsw hRne hR0 hll hcl elv HB5 HB5w
    go_wp2_with (at_builtin; refine Lib.wpList_append_run _ rfl _ _ _ _ rfl _ _ rfl rfl _ _ hr5 ?_)
    go_region_held3 (fun wx => Below w3.heap.size w3 wx ∧ wx.cell? ⟨w.heap.size, 0, none⟩ = some (.slice a1 m1 n1) ∧ wx.cell? ⟨w.heap.size, 1, none⟩ = some (.slice a2 m2 n2) ∧ wx.cell? ⟨w.heap.size, 2, none⟩ = some (.slice a3 m3 n3))
      ((go_split_ands; refine keep3u c0 c1 c2 ?_; repeat (with_reducible first | assumption | exact HB36.out | refine Below.drew ?_ | refine below_au ?_ _)))
      ((first
        | (refine step_append_run rfl (.tmp 82) (.tmp 85) _ _ rfl _ _ rfl rfl _ _ HR6.out ?_)
        | (go_at_call 117; refine KU.out.mono ?_; rintro e w8 ⟨v15, rfl, hown, hb8⟩; have hb38 : Below w3.heap.size w3 w8 := HB36.out.trans (hb8.mono HB36.out.size))))
    have HOWN : Hid (E = 0 → w8.ownsRow w6.heap.size 3 1 v15 (L.length + 1) ((X.map (idx P.vars)).map intV)) := hown
    have HB8 : Hid (Below w3.heap.size w3 w8) := hb38
    have HB8w : Hid (Below w.heap.size w w8) := HB3w.out.trans (hb38.mono HSW.out)
    have HZ8 : Hid (w8.heap[w.heap.size + 1]? = some zero3) := block_keep hb38 HZW.out
    have HST8 : Hid (Rp w8 B w.heap.size P (.slice a1 m1 n1) (.slice a2 m2 n2) (.slice a3 m3 n3) ps qs) := HST3.out.below hb38
    have hEc := lookE_cases P.vars X
    rw [← HE.out.1] at hEc
    clear hown hb8 hb38 c0 c1 c2 z0 z1 z2 y0 y1 y2 hb5 KU HR6
    obtain ⟨c0, c1, c2⟩ := HST8.out.cells
    have z0 : w8.cell? ⟨w.heap.size + 1, 0, none⟩ = some (.slice none 0 0) := by rw [Lib.cell_of_heap HZ8.out]; rfl
    have z1 : w8.cell? ⟨w.heap.size + 1, 1, none⟩ = some (.slice none 0 0) := by rw [Lib.cell_of_heap HZ8.out]; rfl
    have z2 : w8.cell? ⟨w.heap.size + 1, 2, none⟩ = some (.slice none 0 0) := by rw [Lib.cell_of_heap HZ8.out]; rfl
    have y0 := frozen_of_block HZ8.out 0
    have y1 := frozen_of_block HZ8.out 1
    have y2 := frozen_of_block HZ8.out 2
    rcases hEc with rfl | rfl | rfl
    case inr.inl =>
      have HER : Hid (lineEr P l = 1) := HER1.out.trans HE.out.1.symm
      clear HZW
      have HZW := HZ8
      go_wp2_with fail
      have hres := res_cells (HZW.out) (.slice a1 m1 n1) (.slice a2 m2 n2) (.slice a3 m3 n3)
      obtain ⟨r0, r1, r2⟩ := hres
      refine bodyPost_ret (v := .tuple #[.agg #[.slice a1 m1 n1, .slice a2 m2 n2, .slice a3 m3 n3], .int .i64 1, .int .i64 1]) (by simp [results, Tryz.results80, go_sem, r0, r1, r2]) rfl ?_
      exact ⟨a1, m1, n1, a2, m2, n2, a3, m3, n3, by rw [HAT.out, HER.out], fun q => absurd (HER.out.symm.trans q) (by decide), line_bad HBW.out.2 HB8w.out _ _ _⟩
    case inr.inr =>
      have HER : Hid (lineEr P l = 6) := HER1.out.trans HE.out.1.symm
      clear HZW
      have HZW := HZ8
      go_wp2_with fail
      have hres := res_cells (HZW.out) (.slice a1 m1 n1) (.slice a2 m2 n2) (.slice a3 m3 n3)
      obtain ⟨r0, r1, r2⟩ := hres
      refine bodyPost_ret (v := .tuple #[.agg #[.slice a1 m1 n1, .slice a2 m2 n2, .slice a3 m3 n3], .int .i64 1, .int .i64 6]) (by simp [results, Tryz.results80, go_sem, r0, r1, r2]) rfl ?_
      exact ⟨a1, m1, n1, a2, m2, n2, a3, m3, n3, by rw [HAT.out, HER.out], fun q => absurd (HER.out.symm.trans q) (by decide), line_bad HBW.out.2 HB8w.out _ _ _⟩
    case inl =>
      have HER : Hid (lineEr P l = 0) := HER1.out.trans HE.out.1.symm
      have hown := HOWN.out rfl
      obtain ⟨ri, hri⟩ : ∃ z, z = idx P.vars (R.drop 1) := ⟨_, rfl⟩
      have hX2 : X.map (idx P.vars) = L.map (idx P.vars) ++ [ri] := by rw [HE.out.2, List.map_append, hri]; rfl
      obtain ⟨g, c, rfl, hcc2, hIO⟩ := intsOwn_take hown L.length (by omega) (by omega)
      have hIO2 : IntsOwn w8 (.slice (some ⟨g, 0, none⟩) L.length c) (L.map (idx P.vars)) := by
        rw [hX2] at hIO
        have : (L.map (idx P.vars) ++ [ri]).take L.length = L.map (idx P.vars) := by
          rw [show L.length = (L.map (idx P.vars)).length by simp, List.take_left]
        rw [this] at hIO; exact hIO
      have hlast : w8.cell? ⟨g, L.length, none⟩ = some (.int .i64 ri) := by
        have h1 := (isCap_of_owns hown).1
        obtain ⟨b, o, e1, e2⟩ := isInts_at h1 L.length (by rw [hX2]; simp)
        cases e1
        rw [Nat.zero_add] at e2
        rw [e2, hX2]
        simp [List.getD]
      obtain ⟨v', w7, hr0', d0, d1, ⟨xa, xn, xc, rfl⟩, hSt, hBe, hkp⟩ := (HST8.out.below (Below.refl _ w8).drew).addFun (by have := HSM.out.2.1; omega) ⟨N, L.map (idx P.vars), ri⟩ (.slice (some ⟨g, 0, none⟩) L.length c) (hIO2.below (Below.refl _ w8).drew)
      have hlast7 : w7.cell? ⟨g, L.length, none⟩ = some (.int .i64 ri) := by
        have h1 := (isCap_of_owns (owns_kept (owns_below hown (Below.refl _ w8).drew) hkp (by decide))).1
        obtain ⟨b, o, e1, e2⟩ := isInts_at h1 L.length (by rw [hX2]; simp)
        cases e1
        rw [Nat.zero_add] at e2
        rw [e2, hX2]
        simp [List.getD]
      obtain ⟨nL, hnL⟩ : ∃ n, n = L.length := ⟨_, rfl⟩
      rw [← hnL] at hlast hlast7 hr0' hSt hcc2 ⊢
      have HR : Hid ((Builtin.append_ #[40, 40] 40 #[.slice a2 m2 n2, .slice (some ⟨w8.heap.size, 0, none⟩) 1 1]).run Tryz.prog ((w8.alloc (.cells #[.string bN, .slice (some ⟨g, 0, none⟩) nL c, .int .i64 ri] 78)).drew) = .ok (.slice xa xn xc) w7) := by rw [HBN.out.1]; exact hr0'
      have HS7 : Hid (Rp (w7.setCell ⟨w.heap.size, 1, none⟩ (.slice xa xn xc)) B w.heap.size { P with funs := P.funs ++ [⟨N, L.map (idx P.vars), ri⟩] } (.slice a1 m1 n1) (.slice xa xn xc) (.slice a3 m3 n3) (ps ++ [.slice (some ⟨g, 0, none⟩) nL c]) qs ∧ Below B w (w7.setCell ⟨w.heap.size, 1, none⟩ (.slice xa xn xc)) ∧ KP w (w7.setCell ⟨w.heap.size, 1, none⟩ (.slice xa xn xc))) := ⟨hSt, (HB8w.out.mono HBW.out.2).drew.trans hBe, kp_set (kp_kept HB8w.out.drew hkp (by decide)) (Nat.le_refl _)⟩
      have HZ7 : Hid ((w7.setCell ⟨w.heap.size, 1, none⟩ (.slice xa xn xc)).heap[w.heap.size + 1]? = some zero3) := by
        show _ = _
        rw [other_block (by omega)]; exact hkp _ _ _ _ (show w8.drew.heap[w.heap.size + 1]? = some zero3 from HZ8.out) (by decide)
      have HQ2 : Hid (lineQ P l = { P with funs := P.funs ++ [⟨N, L.map (idx P.vars), ri⟩] }) := by show _ = _; rw [HQ.out, hri]
      have hLi : nL ≤ 50002 := by omega
      obtain ⟨nX, hnX⟩ : ∃ n, n = nL + 1 := ⟨_, rfl⟩
      rw [← hnX]
      have hci : (nL : Int) ≤ c := by omega
      have hsub : IntKind.i64.wrap ((nX : Int) - 1) = (nL : Int) := by rw [IntKind.wrap_i64]; omega
      have hlx : (nL : Int) < nX := by omega
      clear hnX
      clear HQ
      have HQ := HQ2
      clear HQ2 hr0' hSt hBe hkp hIO hIO2 hX2 hri hown HOWN hnL hLn hlL hcc2 y0 y1 y2 z0 z1 z2 HE
      go_wp2_with fail
      go_region_held3 (fun wx => wx.cell? ⟨w.heap.size, 1, none⟩ = some (.slice a2 m2 n2) ∧ wx.cell? ⟨g, nL, none⟩ = some (.int .i64 ri))
        ((go_split_ands; first | exact ⟨c1, hlast⟩ | exact ⟨d0, hlast7⟩ | (refine (keep2u c1 hlast ?_).2; repeat (with_reducible first | assumption | exact Below.refl _ _ | refine Below.drew ?_ | refine below_au ?_ _))))
        ((refine step_append_run rfl (.tmp 95) (.tmp 109) _ _ rfl _ _ rfl rfl _ _ HR.out ?_))
      go_upto_region 22 with fail
      obtain ⟨W7, hW7⟩ : ∃ W7, W7 = w7.setCell ⟨w.heap.size, 1, none⟩ (.slice xa xn xc) := ⟨_, rfl⟩
      rw [← hW7] at HS7 HZ7 ⊢
      clear hW7
      obtain ⟨k0, k1, k2⟩ := HS7.out.1.cells
      have z0 : W7.cell? ⟨w.heap.size + 1, 0, none⟩ = some (.slice none 0 0) := by rw [Lib.cell_of_heap HZ7.out]; rfl
      have z1 : W7.cell? ⟨w.heap.size + 1, 1, none⟩ = some (.slice none 0 0) := by rw [Lib.cell_of_heap HZ7.out]; rfl
      have z2 : W7.cell? ⟨w.heap.size + 1, 2, none⟩ = some (.slice none 0 0) := by rw [Lib.cell_of_heap HZ7.out]; rfl
      have y0 := frozen_of_block HZ7.out 0
      have y1 := frozen_of_block HZ7.out 1
      have y2 := frozen_of_block HZ7.out 2
      go_wp2_with fail
      obtain ⟨r0, r1, r2⟩ := res_cells (HZ7.out) (.slice a1 m1 n1) (.slice xa xn xc) (.slice a3 m3 n3)
      refine bodyPost_ret (v := .tuple #[.agg #[.slice a1 m1 n1, .slice xa xn xc, .slice a3 m3 n3], .int .i64 1, .int .i64 0]) (by simp [results, Tryz.results80, go_sem, r0, r1, r2]) rfl ?_
      exact ⟨_, _, _, _, _, _, _, _, _, by rw [HAT.out, HER.out], fun _ => ⟨_, _, _, by rw [HQ.out]; exact HS7.out.1.set3 HZ7.out (by omega) _ _ _⟩, line_good HBW.out.2 HS7.out.2 _ _ _⟩
end Go.Proofs.YtakmmpbkojhmhaaGreatDoor

/-
  The document's readLine: lines of statements: those that are none.
-/
namespace Go.Proofs.YtakmmpbkojhmhaaGreatDoor
open Go.RowKit Go.Extern.Stop Go.Stop Go.Extern

abbrev stB (K : ByteArray) (x y : Int) (a : Value) : Obj := .cells #[.string K, .int .i64 x, .int .i64 y, a] 60
theorem cut_found (l : Bs) (h : (Lib.cut l eqs).2.2 = true) : ∃ i : Nat, i + 3 ≤ l.length ∧ Lib.cut l eqs = (l.take i, l.drop (i + 3), true) ∧ Lib.hasPrefix (l.drop i) eqs = true ∧ ∀ j, j < i → Lib.hasPrefix (l.drop j) eqs = false := by
  rcases Lib.index_spec l eqs with ⟨h1, -⟩ | ⟨i, h1, h2, h3, h4⟩
  · unfold Lib.cut at h
    rw [h1, if_neg (by decide)] at h
    cases h
  · have hr := Lib.index_room l eqs (by omega)
    have he : eqs.length = 3 := rfl
    refine ⟨i, by omega, ?_, h3, fun j hj => h4 j hj⟩
    unfold Lib.cut
    rw [h1, if_pos (by omega)]
    rfl
theorem cut_lost (l : Bs) (h : (Lib.cut l eqs).2.2 = false) : ∀ j, j ≤ l.length → Lib.hasPrefix (l.drop j) eqs = false := by
  rcases Lib.index_spec l eqs with ⟨-, h2⟩ | ⟨i, h1, h2, h3, h4⟩
  · exact h2
  · unfold Lib.cut at h
    rw [h1, if_pos (by omega)] at h
    cases h
theorem st_set {w : World} {b i : Nat} {cs : Array Value} (h : w.heap[b]? = some (.cells cs 60 (0, 0))) (x : Value) : (w.setCell ⟨b, i, none⟩ x).heap[b]? = some (.cells (cs.setIfInBounds i x) 60 (0, 0)) := set_block _ _ _ _ _ _ h x
theorem below_setu {w0 w : World} {n b i : Nat} {x : Value} (h : Below n w0 w) (hb : n ≤ b) : Below n w0 (w.setCell ⟨b, i, none⟩ x) := h.setCell hb x
theorem isStrs_new2 (w : World) (a b : Bs) (n : Nat) (hn : w.heap.size = n) : IsStrs (w.alloc (.cells #[.string (S a), .string (S b)] 9)) (.slice (some ⟨n, 0, none⟩) 2 2) [a, b] := by
  subst hn
  refine ⟨_, _, rfl, Nat.le_refl _, fun j hj => ⟨_, _, rfl, ?_⟩⟩
  match j, hj with
  | 0, _ => simp
  | 1, _ => simp
theorem isStrs_new1 (w : World) (a : Bs) (n : Nat) (hn : w.heap.size = n) : IsStrs (w.alloc (.cells #[.string (S a)] 9)) (.slice (some ⟨n, 0, none⟩) 1 1) [a] := by
  subst hn
  refine ⟨_, _, rfl, Nat.le_refl _, fun j hj => ⟨_, _, rfl, ?_⟩⟩
  match j, hj with
  | 0, _ => simp
theorem stmt_er {P : ProgD} {l x y : Bs} {ns : List Bs} (h : (Lib.cut l eqs).2.2 = true) (hx : (Lib.cut l eqs).1 = x) (hy : (Lib.cut l eqs).2.1 = y) (hN : sentN x y = some ns) (hK : (sentK x y == kFun) = false) : stmtEr P l = lookE P.vars ns := by
  unfold stmtEr
  rw [h, hx, hy, hN, hK]
  simp only [Bool.not_true, Bool.false_eq_true, if_false, Bool.false_and]
  split
  · rename_i q; exact q.symm
  · rfl
theorem stmt_q {P : ProgD} {l x y : Bs} {ns : List Bs} {K : Bs} (hx : (Lib.cut l eqs).1 = x) (hy : (Lib.cut l eqs).2.1 = y) (hN : sentN x y = some ns) (hK : sentK x y = K) (hf : (K == kFun) = false) : stmtQ P l = { P with stmts := P.stmts ++ [⟨K, (ns.map (idx P.vars)).headD 0, (ns.map (idx P.vars)).getD 1 0, (ns.map (idx P.vars)).drop 2⟩] } := by
  unfold stmtQ stmtOf
  rw [hx, hy, hN, hK, hf]
  rfl

set_option maxRecDepth 100000 in
set_option maxHeartbeats 8000000 in
theorem line_S0 {B : Nat} {P : ProgD} {v1 v2 v3 : Value} {ps qs : List Value} (l : Bs) (w : World) (hst : Rq w B P v1 v2 v3 ps qs) (hz : l.length ≤ 50000) (hS : SmallP P) (hv : Lib.hasPrefix l kv4 = false) (hp : Lib.hasPrefix l kf3 = false) (hno : (Lib.cut l eqs).2.2 = false) :
    Calls Tryz.prog 80 #[.agg #[v1, v2, v3], .string (S l)] w fun e w' => LinePost B w w' P l e := by
  obtain ⟨a1, n1, rfl⟩ := owns_form hst.o1
  obtain ⟨a2, n2, rfl⟩ := owns_form hst.o2
  obtain ⟨a3, n3, rfl⟩ := owns_form hst.o3
  obtain ⟨m1, hm1⟩ : ∃ m, m = P.vars.length := ⟨_, rfl⟩
  obtain ⟨m2, hm2⟩ : ∃ m, m = P.funs.length := ⟨_, rfl⟩
  obtain ⟨m3, hm3⟩ : ∃ m, m = P.stmts.length := ⟨_, rfl⟩
  rw [← hm1, ← hm2, ← hm3] at hst ⊢
  have HMM : Hid (m1 = P.vars.length ∧ m2 = P.funs.length ∧ m3 = P.stmts.length) := ⟨hm1, hm2, hm3⟩
  have HSM : Hid (SmallP P) := hS
  obtain ⟨s, hs⟩ : ∃ s, s = S l := ⟨_, rfl⟩
  have hsl : s.data.toList = l := by rw [hs, S_data]
  have hsz : s.size = l.length := by rw [hs, S_size]
  have hsz2 : s.size ≤ 100000 := by omega
  rw [← hs]
  obtain ⟨W, hW⟩ : ∃ W, W = (w.alloc (.cells #[.slice a1 m1 n1, .slice a2 m2 n2, .slice a3 m3 n3] 43)).alloc zero3 := ⟨_, rfl⟩
  have hBW0 : Below w.heap.size w W := by rw [hW]; exact (below1 w _).alloc (by simp) _
  have HBW : Hid (Below w.heap.size w W ∧ B ≤ w.heap.size) := ⟨hBW0, hst.size⟩
  have HST : Hid (Rp W B w.heap.size P (.slice a1 m1 n1) (.slice a2 m2 n2) (.slice a3 m3 n3) ps qs) := by
    show Rp _ _ _ _ _ _ _ _ _
    rw [hW]; exact hst.rebox.below (below1 _ _)
  have HZB : Hid (W.heap[w.heap.size + 1]? = some zero3) := by
    show _ = _
    rw [hW]
    have := heap_new (w.alloc (.cells #[.slice a1 m1 n1, .slice a2 m2 n2, .slice a3 m3 n3] 43)) zero3
    simpa using this
  obtain ⟨c0, c1, c2⟩ := HST.out.cells
  have f0 := HST.out.frz 0
  have f1 := HST.out.frz 1
  have f2 := HST.out.frz 2
  have z0 : W.cell? ⟨w.heap.size + 1, 0, none⟩ = some (.slice none 0 0) := by rw [Lib.cell_of_heap HZB.out]; rfl
  have z1 : W.cell? ⟨w.heap.size + 1, 1, none⟩ = some (.slice none 0 0) := by rw [Lib.cell_of_heap HZB.out]; rfl
  have z2 : W.cell? ⟨w.heap.size + 1, 2, none⟩ = some (.slice none 0 0) := by rw [Lib.cell_of_heap HZB.out]; rfl
  have y0 := frozen_of_block HZB.out 0
  have y1 := frozen_of_block HZB.out 1
  have y2 := frozen_of_block HZB.out 2
  have K1 : Hid (∀ wx, Calls Tryz.prog 115 #[.string s, .string ⟨#[118, 97, 114, 32]⟩] wx fun e w' => e = .returned (.bool false) ∧ w' = wx) := fun wx => by
    have := refStarts_any l [118, 97, 114, 32] wx
    rw [← hs] at this
    rw [show Lib.hasPrefix l [118, 97, 114, 32] = false from hv] at this
    exact this
  have K2 : Hid (∀ wx, Calls Tryz.prog 115 #[.string s, .string ⟨#[102, 110, 32]⟩] wx fun e w' => e = .returned (.bool false) ∧ w' = wx) := fun wx => by
    have := refStarts_any l [102, 110, 32] wx
    rw [← hs] at this
    rw [show Lib.hasPrefix l [102, 110, 32] = false from hp] at this
    exact this
  have HAT : Hid (lineAt l = 2) := by show _ = _; unfold lineAt; rw [if_neg (by rw [hv]; decide), if_neg (by rw [hp]; decide)]
  have hER : lineEr P l = stmtEr P l := by unfold lineEr; rw [if_neg (by rw [hv]; decide), if_neg (by rw [hp]; decide)]
  have hQ : lineQ P l = stmtQ P l := by unfold lineQ; rw [if_neg (by rw [hv]; decide), if_neg (by rw [hp]; decide)]
  have hxk : ∀ k, k ≤ s.size → s.extract k s.size = S (l.drop k) := fun k hk => by rw [extract_S, hsl, List.take_of_length_le]; simp; omega
  have K3 : Hid (∀ wx k, k < s.size → Calls Tryz.prog 115 #[.string (s.extract k s.size), .string ⟨#[32, 61, 32]⟩] wx fun e w' => e = .returned (.bool false) ∧ w' = wx) := fun wx k hk => by
    rw [hxk k (by omega), ← cut_lost l hno k (by omega)]
    exact refStarts_any (l.drop k) eqs wx
  have HER : Hid (lineEr P l = 1) := by show _ = _; rw [hER]; unfold stmtEr; rw [hno]; rfl
  have HZW := HZB
  clear hER hQ hxk hv hp hno
  clear hst hm1 hm2 hm3 hS hs hsl hsz hz hBW0
  go_enter Tryz.func80, Tryz.ntmps80
  go_wp2_with fail
  rw [← hW]
  clear hW
  refine (K1.out _).mono ?_
  rintro e wq ⟨rfl, hwq⟩
  obtain rfl := hwq.symm
  clear hwq K1
  go_wp2_with fail
  refine (K2.out _).mono ?_
  rintro e wq ⟨rfl, hwq⟩
  obtain rfl := hwq.symm
  clear hwq K2
  go_wp2_with fail
  go_loop [18] (fun t => ∃ k : Nat, k ≤ s.size ∧ t = .int .i64 k) (fun t => (s.size - intOf t).toNat)
  case atStart => exact ⟨0, Nat.zero_le _, rfl⟩
  case round =>
    obtain ⟨k, hk, rfl⟩ := hrel
    by_cases hlt : k < s.size
    · have hki : (k : Int) ≤ s.size := by omega
      go_wp2_with (go_at_call 115; refine (K3.out _ k hlt).mono ?_; rintro e wq ⟨rfl, hwq⟩; obtain rfl := hwq.symm; clear hwq)
      go_round
      case rel => exact ⟨k + 1, by omega, by go_num⟩
      case measure => simp [intOf]; omega
    · obtain rfl : k = s.size := by omega
      go_wp2_with fail
      have hres := res_cells (HZW.out) (.slice a1 m1 n1) (.slice a2 m2 n2) (.slice a3 m3 n3)
      obtain ⟨r0, r1, r2⟩ := hres
      refine bodyPost_ret (v := .tuple #[.agg #[.slice a1 m1 n1, .slice a2 m2 n2, .slice a3 m3 n3], .int .i64 2, .int .i64 1]) (by simp [results, Tryz.results80, go_sem, r0, r1, r2]) rfl ?_
      exact ⟨a1, m1, n1, a2, m2, n2, a3, m3, n3, by rw [HAT.out, HER.out], fun q => absurd (HER.out.symm.trans q) (by decide), line_bad HBW.out.2 HBW.out.1 _ _ _⟩
end Go.Proofs.YtakmmpbkojhmhaaGreatDoor

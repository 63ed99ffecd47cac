/-
  The document's readLine: lines of statements: calls that are none.
-/
import Derived.Test.YtakmmpbkojhmhaaGreatDoorXEM
namespace Go.Proofs.YtakmmpbkojhmhaaGreatDoor
open Go.RowKit Go.Extern.Stop Go.Stop Go.Extern


set_option maxRecDepth 100000 in
set_option maxHeartbeats 8000000 in
theorem line_call0 {B : Nat} {P : ProgD} {v1 v2 v3 : Value} {ps qs : List Value} (l : Bs) (w : World) (hst : Rq w B P v1 v2 v3 ps qs) (hz : l.length ≤ 50000) (hS : SmallP P) (hv : Lib.hasPrefix l kv4 = false) (hp : Lib.hasPrefix l kf3 = false) (hyes : (Lib.cut l eqs).2.2 = true) (x y : Bs) (hx : (Lib.cut l eqs).1 = x) (hy : (Lib.cut l eqs).2.1 = y) (g1 : Lib.hasPrefix x [42] = false) (g2 : (y == kNew) = false) (g3 : Lib.hasPrefix y [38] = false) (g4 : Lib.hasPrefix y [42] = false) (g5 : Lib.hasPrefix y kf3 = false) (g6 : Lib.hasPrefix y kc5 = true) (hno : listF (y.drop 5) = false) :
    Calls Tryz.prog 80 #[.agg #[v1, v2, v3], .string (S l)] w fun e w' => LinePost B w w' P l e := by
  obtain ⟨a1, n1, rfl⟩ := owns_form hst.o1
  obtain ⟨a2, n2, rfl⟩ := owns_form hst.o2
  obtain ⟨a3, n3, rfl⟩ := owns_form hst.o3
  obtain ⟨m1, hm1⟩ : ∃ m, m = P.vars.length := ⟨_, rfl⟩
  obtain ⟨m2, hm2⟩ : ∃ m, m = P.funs.length := ⟨_, rfl⟩
  obtain ⟨m3, hm3⟩ : ∃ m, m = P.stmts.length := ⟨_, rfl⟩
  rw [← hm1, ← hm2, ← hm3] at hst ⊢
  have HMM : Hid (m1 = P.vars.length ∧ m2 = P.funs.length ∧ m3 = P.stmts.length) := ⟨hm1, hm2, hm3⟩
  have HSM : Hid (SmallP P) := hS
  obtain ⟨s, hs⟩ : ∃ s, s = S l := ⟨_, rfl⟩
  have hsl : s.data.toList = l := by rw [hs, S_data]
  have hsz : s.size = l.length := by rw [hs, S_size]
  have hsz2 : s.size ≤ 100000 := by omega
  rw [← hs]
  obtain ⟨W, hW⟩ : ∃ W, W = (w.alloc (.cells #[.slice a1 m1 n1, .slice a2 m2 n2, .slice a3 m3 n3] 43)).alloc zero3 := ⟨_, rfl⟩
  have hBW0 : Below w.heap.size w W := by rw [hW]; exact (below1 w _).alloc (by simp) _
  have HBW : Hid (Below w.heap.size w W ∧ B ≤ w.heap.size) := ⟨hBW0, hst.size⟩
  have HST : Hid (Rp W B w.heap.size P (.slice a1 m1 n1) (.slice a2 m2 n2) (.slice a3 m3 n3) ps qs) := by
    show Rp _ _ _ _ _ _ _ _ _
    rw [hW]; exact hst.rebox.below (below1 _ _)
  have HZB : Hid (W.heap[w.heap.size + 1]? = some zero3) := by
    show _ = _
    rw [hW]
    have := heap_new (w.alloc (.cells #[.slice a1 m1 n1, .slice a2 m2 n2, .slice a3 m3 n3] 43)) zero3
    simpa using this
  obtain ⟨c0, c1, c2⟩ := HST.out.cells
  have f0 := HST.out.frz 0
  have f1 := HST.out.frz 1
  have f2 := HST.out.frz 2
  have z0 : W.cell? ⟨w.heap.size + 1, 0, none⟩ = some (.slice none 0 0) := by rw [Lib.cell_of_heap HZB.out]; rfl
  have z1 : W.cell? ⟨w.heap.size + 1, 1, none⟩ = some (.slice none 0 0) := by rw [Lib.cell_of_heap HZB.out]; rfl
  have z2 : W.cell? ⟨w.heap.size + 1, 2, none⟩ = some (.slice none 0 0) := by rw [Lib.cell_of_heap HZB.out]; rfl
  have y0 := frozen_of_block HZB.out 0
  have y1 := frozen_of_block HZB.out 1
  have y2 := frozen_of_block HZB.out 2
  have K1 : Hid (∀ wx, Calls Tryz.prog 115 #[.string s, .string ⟨#[118, 97, 114, 32]⟩] wx fun e w' => e = .returned (.bool false) ∧ w' = wx) := fun wx => by
    have := refStarts_any l [118, 97, 114, 32] wx
    rw [← hs] at this
    rw [show Lib.hasPrefix l [118, 97, 114, 32] = false from hv] at this
    exact this
  have K2 : Hid (∀ wx, Calls Tryz.prog 115 #[.string s, .string ⟨#[102, 110, 32]⟩] wx fun e w' => e = .returned (.bool false) ∧ w' = wx) := fun wx => by
    have := refStarts_any l [102, 110, 32] wx
    rw [← hs] at this
    rw [show Lib.hasPrefix l [102, 110, 32] = false from hp] at this
    exact this
  have HAT : Hid (lineAt l = 2) := by show _ = _; unfold lineAt; rw [if_neg (by rw [hv]; decide), if_neg (by rw [hp]; decide)]
  have hER : lineEr P l = stmtEr P l := by unfold lineEr; rw [if_neg (by rw [hv]; decide), if_neg (by rw [hp]; decide)]
  have hQ : lineQ P l = stmtQ P l := by unfold lineQ; rw [if_neg (by rw [hv]; decide), if_neg (by rw [hp]; decide)]
  have hxk : ∀ k, k ≤ s.size → s.extract k s.size = S (l.drop k) := fun k hk => by rw [extract_S, hsl, List.take_of_length_le]; simp; omega
  obtain ⟨i, hil, hcut, hat, hbe⟩ := cut_found l hyes
  have K3 : Hid (∀ wx k, k < i → Calls Tryz.prog 115 #[.string (s.extract k s.size), .string ⟨#[32, 61, 32]⟩] wx fun e w' => e = .returned (.bool false) ∧ w' = wx) := fun wx k hk => by
    rw [hxk k (by omega), ← hbe k hk]
    exact refStarts_any (l.drop k) eqs wx
  have K4 : Hid (∀ wx, Calls Tryz.prog 115 #[.string (s.extract i s.size), .string ⟨#[32, 61, 32]⟩] wx fun e w' => e = .returned (.bool true) ∧ w' = wx) := fun wx => by
    rw [hxk i (by omega), ← hat]
    exact refStarts_any (l.drop i) eqs wx
  have hx' : x = l.take i := by rw [← hx, hcut]
  have hy' : y = l.drop (i + 3) := by rw [← hy, hcut]
  obtain ⟨bx, hbx⟩ : ∃ b, b = S x := ⟨_, rfl⟩
  obtain ⟨bY, hbY⟩ : ∃ b, b = S y := ⟨_, rfl⟩
  have HXB : Hid (s.extract 0 i = bx ∧ s.extract (i + 3) s.size = bY) := ⟨by rw [extract_S, hsl, hbx, hx']; simp, by rw [hxk (i + 3) (by omega), hbY, hy']⟩
  have lx : x.length ≤ 50000 := by rw [hx']; simp; omega
  have ly : y.length ≤ 50000 := by rw [hy']; simp; omega
  have hbxz : bx.size = x.length := by rw [hbx, S_size]
  have hbYz : bY.size = y.length := by rw [hbY, S_size]
  have hbx5 : bx.size ≤ 50000 := by omega
  have hbY5 : bY.size ≤ 50000 := by omega
  have hi3 : i + 3 ≤ s.size := by omega
  have hii : (i : Int) + 3 ≤ s.size := by omega
  have hin : ((i : Int) == (s.size : Int)) = false := beq_eq_false_iff_ne.2 (by omega)
  have K5 : Hid (∀ wx, Calls Tryz.prog 115 #[.string bx, .string ⟨#[42]⟩] wx fun e w' => e = .returned (.bool false) ∧ w' = wx) := fun wx => by
    have := refStarts_any x [42] wx
    rw [← hbx, show Lib.hasPrefix x [42] = false from g1] at this
    exact this
  have hyn : (bY.toList == [110, 101, 119]) = false := by rw [hbY, S_toList]; exact g2
  have K6 : Hid (∀ wx, Calls Tryz.prog 115 #[.string bY, .string ⟨#[38]⟩] wx fun e w' => e = .returned (.bool false) ∧ w' = wx) := fun wx => by
    have := refStarts_any y [38] wx
    rw [← hbY, show Lib.hasPrefix y [38] = false from g3] at this
    exact this
  have K7 : Hid (∀ wx, Calls Tryz.prog 115 #[.string bY, .string ⟨#[42]⟩] wx fun e w' => e = .returned (.bool false) ∧ w' = wx) := fun wx => by
    have := refStarts_any y [42] wx
    rw [← hbY, show Lib.hasPrefix y [42] = false from g4] at this
    exact this
  have K8 : Hid (∀ wx, Calls Tryz.prog 115 #[.string bY, .string ⟨#[102, 110, 32]⟩] wx fun e w' => e = .returned (.bool false) ∧ w' = wx) := fun wx => by
    have := refStarts_any y [102, 110, 32] wx
    rw [← hbY, show Lib.hasPrefix y [102, 110, 32] = false from g5] at this
    exact this
  have K9 : Hid (∀ wx, Calls Tryz.prog 115 #[.string bY, .string ⟨#[99, 97, 108, 108, 32]⟩] wx fun e w' => e = .returned (.bool true) ∧ w' = wx) := fun wx => by
    have := refStarts_any y [99, 97, 108, 108, 32] wx
    rw [← hbY, show Lib.hasPrefix y [99, 97, 108, 108, 32] = true from g6] at this
    exact this
  have hp5 : 5 ≤ y.length := pre_size g6
  have hp5i : (5 : Int) ≤ bY.size := by omega
  obtain ⟨r, hr⟩ : ∃ r, r = y.drop 5 := ⟨_, rfl⟩
  have HE5 : Hid (bY.extract 5 bY.size = S r) := by
    show _ = _
    rw [extract_S, hbY, S_data, hr, List.take_of_length_le]; rw [S_size]; simp
  have hrl : r.length ≤ 50000 := by rw [hr]; simp only [List.length_drop]; omega
  rw [← hr] at hno
  have KL : Hid (∀ wx, Calls Tryz.prog 116 #[.string (bY.extract 5 bY.size)] wx fun e w' => e = .returned (.tuple #[.string ⟨#[]⟩, .slice none 0 0, .string ⟨#[]⟩, .bool false]) ∧ w' = wx) := fun wx => by
    rw [HE5.out]
    refine (refListOf_any r wx (by omega)).mono fun e w' h => ?_
    rcases h with ⟨-, h⟩ | ⟨h, -⟩
    · exact h
    · rw [hno] at h; cases h
  have HER : Hid (lineEr P l = 1) := by
    show _ = _
    rw [hER]; unfold stmtEr sentN
    rw [hyes, hx, hy, g1, g2, g3, g4, g5, g6, ← hr, hno]; rfl
  have HWB : Hid (w.heap.size ≤ W.heap.size) := HBW.out.1.size
  clear g1 g2 g3 g4 g5 g6 hp5 hno hr
  clear hER hQ hxk hv hp hyes hcut hat hbe hil hx hy hx' hy' lx ly hbxz hbYz hbx hbY
  clear hst hm1 hm2 hm3 hS hs hsl hsz hz hBW0
  go_enter Tryz.func80, Tryz.ntmps80
  go_wp2_with fail
  rw [← hW]
  clear hW
  refine (K1.out _).mono ?_
  rintro e wq ⟨rfl, hwq⟩
  obtain rfl := hwq.symm
  clear hwq K1
  go_wp2_with fail
  refine (K2.out _).mono ?_
  rintro e wq ⟨rfl, hwq⟩
  obtain rfl := hwq.symm
  clear hwq K2
  go_wp2_with fail
  go_loop [18] (fun t => ∃ k : Nat, k ≤ i ∧ t = .int .i64 k) (fun t => (i - intOf t).toNat)
  case atStart => exact ⟨0, Nat.zero_le _, rfl⟩
  case round =>
  obtain ⟨k, hk, rfl⟩ := hrel
  by_cases hlt : k < i
  · have hki : (k : Int) ≤ s.size := by omega
    have hki2 : (k : Int) < s.size := by omega
    go_wp2_with (go_at_call 115; refine (K3.out _ k hlt).mono ?_; rintro e wq ⟨rfl, hwq⟩; obtain rfl := hwq.symm; clear hwq)
    go_round
    case rel => exact ⟨k + 1, by omega, by go_num⟩
    case measure => simp [intOf]; omega
  obtain rfl : k = i := by omega
  have hki : (k : Int) ≤ s.size := by omega
  have hki2 : (k : Int) < s.size := by omega
  clear K3 hlt hk
  go_upto_region 26 with (go_at_call 115; refine (K4.out _).mono ?_; rintro e wq ⟨rfl, hwq⟩; obtain rfl := hwq.symm; clear hwq)
  go_upto_region 30 with fail
  rw [HXB.out.1, HXB.out.2]
  go_wp2_with fail
  refine (K5.out _).mono ?_
  rintro e wq ⟨rfl, hwq⟩
  obtain rfl := hwq.symm
  clear hwq K5
  go_wp2_with fail
  refine (K6.out _).mono ?_
  rintro e wq ⟨rfl, hwq⟩
  obtain rfl := hwq.symm
  clear hwq K6
  go_wp2_with fail
  refine (K7.out _).mono ?_
  rintro e wq ⟨rfl, hwq⟩
  obtain rfl := hwq.symm
  clear hwq K7
  go_wp2_with fail
  refine (K8.out _).mono ?_
  rintro e wq ⟨rfl, hwq⟩
  obtain rfl := hwq.symm
  clear hwq K8
  go_wp2_with fail
  refine (K9.out _).mono ?_
  rintro e wq ⟨rfl, hwq⟩
  obtain rfl := hwq.symm
  clear hwq K9
  go_wp2_with fail
  refine (KL.out _).mono ?_
  rintro e wq ⟨rfl, hwq⟩
  obtain rfl := hwq.symm
  clear hwq KL
  obtain ⟨W2, hW2⟩ : ∃ W2, W2 = (W.alloc (stB ⟨#[99, 97, 108, 108]⟩ 0 0 (.slice none 0 0))).alloc (.cells #[.string bx, .string bY] 9) := ⟨_, rfl⟩
  have hb2 : Below W.heap.size W W2 := by rw [hW2]; repeat (with_reducible first | exact Below.refl _ _ | refine below_au ?_ _)
  rw [← hW2]
  clear hW2
  replace c0 := cell_keep hb2 c0
  replace c1 := cell_keep hb2 c1
  replace c2 := cell_keep hb2 c2
  have HZW : Hid (W2.heap[w.heap.size + 1]? = some zero3) := block_keep hb2 HZB.out
  replace z0 := cell_keep hb2 z0
  replace z1 := cell_keep hb2 z1
  replace z2 := cell_keep hb2 z2
  replace y0 := frozen_of_block HZW.out 0
  replace y1 := frozen_of_block HZW.out 1
  replace y2 := frozen_of_block HZW.out 2
  have HB8w : Hid (Below w.heap.size w W2) := HBW.out.1.trans (hb2.mono HWB.out)
  clear hb2 f0 f1 f2
  go_wp2_with fail
  have hres := res_cells (HZW.out) (.slice a1 m1 n1) (.slice a2 m2 n2) (.slice a3 m3 n3)
  obtain ⟨r0, r1, r2⟩ := hres
  refine bodyPost_ret (v := .tuple #[.agg #[.slice a1 m1 n1, .slice a2 m2 n2, .slice a3 m3 n3], .int .i64 2, .int .i64 1]) (by simp [results, Tryz.results80, go_sem, r0, r1, r2]) rfl ?_
  exact ⟨a1, m1, n1, a2, m2, n2, a3, m3, n3, by rw [HAT.out, HER.out], fun q => absurd (HER.out.symm.trans q) (by decide), line_bad HBW.out.2 HB8w.out _ _ _⟩

set_option maxRecDepth 100000 in
set_option maxHeartbeats 8000000 in
theorem line_callB {B : Nat} {P : ProgD} {v1 v2 v3 : Value} {ps qs : List Value} (l : Bs) (w : World) (hst : Rq w B P v1 v2 v3 ps qs) (hz : l.length ≤ 50000) (hS : SmallP P) (hv : Lib.hasPrefix l kv4 = false) (hp : Lib.hasPrefix l kf3 = false) (hyes : (Lib.cut l eqs).2.2 = true) (x y : Bs) (hx : (Lib.cut l eqs).1 = x) (hy : (Lib.cut l eqs).2.1 = y) (g1 : Lib.hasPrefix x [42] = false) (g2 : (y == kNew) = false) (g3 : Lib.hasPrefix y [38] = false) (g4 : Lib.hasPrefix y [42] = false) (g5 : Lib.hasPrefix y kf3 = false) (g6 : Lib.hasPrefix y kc5 = true) (hyes2 : listF (y.drop 5) = true) (hne : (listB (y.drop 5)).isEmpty = false) :
    Calls Tryz.prog 80 #[.agg #[v1, v2, v3], .string (S l)] w fun e w' => LinePost B w w' P l e := by
  obtain ⟨a1, n1, rfl⟩ := owns_form hst.o1
  obtain ⟨a2, n2, rfl⟩ := owns_form hst.o2
  obtain ⟨a3, n3, rfl⟩ := owns_form hst.o3
  obtain ⟨m1, hm1⟩ : ∃ m, m = P.vars.length := ⟨_, rfl⟩
  obtain ⟨m2, hm2⟩ : ∃ m, m = P.funs.length := ⟨_, rfl⟩
  obtain ⟨m3, hm3⟩ : ∃ m, m = P.stmts.length := ⟨_, rfl⟩
  rw [← hm1, ← hm2, ← hm3] at hst ⊢
  have HMM : Hid (m1 = P.vars.length ∧ m2 = P.funs.length ∧ m3 = P.stmts.length) := ⟨hm1, hm2, hm3⟩
  have HSM : Hid (SmallP P) := hS
  obtain ⟨s, hs⟩ : ∃ s, s = S l := ⟨_, rfl⟩
  have hsl : s.data.toList = l := by rw [hs, S_data]
  have hsz : s.size = l.length := by rw [hs, S_size]
  have hsz2 : s.size ≤ 100000 := by omega
  rw [← hs]
  obtain ⟨W, hW⟩ : ∃ W, W = (w.alloc (.cells #[.slice a1 m1 n1, .slice a2 m2 n2, .slice a3 m3 n3] 43)).alloc zero3 := ⟨_, rfl⟩
  have hBW0 : Below w.heap.size w W := by rw [hW]; exact (below1 w _).alloc (by simp) _
  have HBW : Hid (Below w.heap.size w W ∧ B ≤ w.heap.size) := ⟨hBW0, hst.size⟩
  have HST : Hid (Rp W B w.heap.size P (.slice a1 m1 n1) (.slice a2 m2 n2) (.slice a3 m3 n3) ps qs) := by
    show Rp _ _ _ _ _ _ _ _ _
    rw [hW]; exact hst.rebox.below (below1 _ _)
  have HZB : Hid (W.heap[w.heap.size + 1]? = some zero3) := by
    show _ = _
    rw [hW]
    have := heap_new (w.alloc (.cells #[.slice a1 m1 n1, .slice a2 m2 n2, .slice a3 m3 n3] 43)) zero3
    simpa using this
  obtain ⟨c0, c1, c2⟩ := HST.out.cells
  have f0 := HST.out.frz 0
  have f1 := HST.out.frz 1
  have f2 := HST.out.frz 2
  have z0 : W.cell? ⟨w.heap.size + 1, 0, none⟩ = some (.slice none 0 0) := by rw [Lib.cell_of_heap HZB.out]; rfl
  have z1 : W.cell? ⟨w.heap.size + 1, 1, none⟩ = some (.slice none 0 0) := by rw [Lib.cell_of_heap HZB.out]; rfl
  have z2 : W.cell? ⟨w.heap.size + 1, 2, none⟩ = some (.slice none 0 0) := by rw [Lib.cell_of_heap HZB.out]; rfl
  have y0 := frozen_of_block HZB.out 0
  have y1 := frozen_of_block HZB.out 1
  have y2 := frozen_of_block HZB.out 2
  have K1 : Hid (∀ wx, Calls Tryz.prog 115 #[.string s, .string ⟨#[118, 97, 114, 32]⟩] wx fun e w' => e = .returned (.bool false) ∧ w' = wx) := fun wx => by
    have := refStarts_any l [118, 97, 114, 32] wx
    rw [← hs] at this
    rw [show Lib.hasPrefix l [118, 97, 114, 32] = false from hv] at this
    exact this
  have K2 : Hid (∀ wx, Calls Tryz.prog 115 #[.string s, .string ⟨#[102, 110, 32]⟩] wx fun e w' => e = .returned (.bool false) ∧ w' = wx) := fun wx => by
    have := refStarts_any l [102, 110, 32] wx
    rw [← hs] at this
    rw [show Lib.hasPrefix l [102, 110, 32] = false from hp] at this
    exact this
  have HAT : Hid (lineAt l = 2) := by show _ = _; unfold lineAt; rw [if_neg (by rw [hv]; decide), if_neg (by rw [hp]; decide)]
  have hER : lineEr P l = stmtEr P l := by unfold lineEr; rw [if_neg (by rw [hv]; decide), if_neg (by rw [hp]; decide)]
  have hQ : lineQ P l = stmtQ P l := by unfold lineQ; rw [if_neg (by rw [hv]; decide), if_neg (by rw [hp]; decide)]
  have hxk : ∀ k, k ≤ s.size → s.extract k s.size = S (l.drop k) := fun k hk => by rw [extract_S, hsl, List.take_of_length_le]; simp; omega
  obtain ⟨i, hil, hcut, hat, hbe⟩ := cut_found l hyes
  have K3 : Hid (∀ wx k, k < i → Calls Tryz.prog 115 #[.string (s.extract k s.size), .string ⟨#[32, 61, 32]⟩] wx fun e w' => e = .returned (.bool false) ∧ w' = wx) := fun wx k hk => by
    rw [hxk k (by omega), ← hbe k hk]
    exact refStarts_any (l.drop k) eqs wx
  have K4 : Hid (∀ wx, Calls Tryz.prog 115 #[.string (s.extract i s.size), .string ⟨#[32, 61, 32]⟩] wx fun e w' => e = .returned (.bool true) ∧ w' = wx) := fun wx => by
    rw [hxk i (by omega), ← hat]
    exact refStarts_any (l.drop i) eqs wx
  have hx' : x = l.take i := by rw [← hx, hcut]
  have hy' : y = l.drop (i + 3) := by rw [← hy, hcut]
  obtain ⟨bx, hbx⟩ : ∃ b, b = S x := ⟨_, rfl⟩
  obtain ⟨bY, hbY⟩ : ∃ b, b = S y := ⟨_, rfl⟩
  have HXB : Hid (s.extract 0 i = bx ∧ s.extract (i + 3) s.size = bY) := ⟨by rw [extract_S, hsl, hbx, hx']; simp, by rw [hxk (i + 3) (by omega), hbY, hy']⟩
  have lx : x.length ≤ 50000 := by rw [hx']; simp; omega
  have ly : y.length ≤ 50000 := by rw [hy']; simp; omega
  have hbxz : bx.size = x.length := by rw [hbx, S_size]
  have hbYz : bY.size = y.length := by rw [hbY, S_size]
  have hbx5 : bx.size ≤ 50000 := by omega
  have hbY5 : bY.size ≤ 50000 := by omega
  have hi3 : i + 3 ≤ s.size := by omega
  have hii : (i : Int) + 3 ≤ s.size := by omega
  have hin : ((i : Int) == (s.size : Int)) = false := beq_eq_false_iff_ne.2 (by omega)
  have K5 : Hid (∀ wx, Calls Tryz.prog 115 #[.string bx, .string ⟨#[42]⟩] wx fun e w' => e = .returned (.bool false) ∧ w' = wx) := fun wx => by
    have := refStarts_any x [42] wx
    rw [← hbx, show Lib.hasPrefix x [42] = false from g1] at this
    exact this
  have hyn : (bY.toList == [110, 101, 119]) = false := by rw [hbY, S_toList]; exact g2
  have K6 : Hid (∀ wx, Calls Tryz.prog 115 #[.string bY, .string ⟨#[38]⟩] wx fun e w' => e = .returned (.bool false) ∧ w' = wx) := fun wx => by
    have := refStarts_any y [38] wx
    rw [← hbY, show Lib.hasPrefix y [38] = false from g3] at this
    exact this
  have K7 : Hid (∀ wx, Calls Tryz.prog 115 #[.string bY, .string ⟨#[42]⟩] wx fun e w' => e = .returned (.bool false) ∧ w' = wx) := fun wx => by
    have := refStarts_any y [42] wx
    rw [← hbY, show Lib.hasPrefix y [42] = false from g4] at this
    exact this
  have K8 : Hid (∀ wx, Calls Tryz.prog 115 #[.string bY, .string ⟨#[102, 110, 32]⟩] wx fun e w' => e = .returned (.bool false) ∧ w' = wx) := fun wx => by
    have := refStarts_any y [102, 110, 32] wx
    rw [← hbY, show Lib.hasPrefix y [102, 110, 32] = false from g5] at this
    exact this
  have K9 : Hid (∀ wx, Calls Tryz.prog 115 #[.string bY, .string ⟨#[99, 97, 108, 108, 32]⟩] wx fun e w' => e = .returned (.bool true) ∧ w' = wx) := fun wx => by
    have := refStarts_any y [99, 97, 108, 108, 32] wx
    rw [← hbY, show Lib.hasPrefix y [99, 97, 108, 108, 32] = true from g6] at this
    exact this
  have hp5 : 5 ≤ y.length := pre_size g6
  have hp5i : (5 : Int) ≤ bY.size := by omega
  obtain ⟨r, hr⟩ : ∃ r, r = y.drop 5 := ⟨_, rfl⟩
  have HE5 : Hid (bY.extract 5 bY.size = S r) := by
    show _ = _
    rw [extract_S, hbY, S_data, hr, List.take_of_length_le]; rw [S_size]; simp
  have hrl : r.length ≤ 50000 := by rw [hr]; simp only [List.length_drop]; omega
  rw [← hr] at hyes2
  obtain ⟨N, hN'⟩ : ∃ N, N = listN r := ⟨_, rfl⟩
  obtain ⟨R, hR⟩ : ∃ R, R = listB r := ⟨_, rfl⟩
  obtain ⟨L, hL⟩ : ∃ L, L = listL r := ⟨_, rfl⟩
  have lN : N.length ≤ 100000 := by rw [hN']; have := (cut_len2 r [40]).1; unfold listN; omega
  have hLn : L.length ≤ 50002 := by rw [hL]; have := listL_many r; omega
  have HLL : Hid (∀ q ∈ L, q.length ≤ 100000) := fun q hq => by rw [hL] at hq; exact Nat.le_trans (listL_each r q hq) (by omega)
  obtain ⟨bN, hbN⟩ : ∃ b, b = S N := ⟨_, rfl⟩
  obtain ⟨bR, hbR⟩ : ∃ b, b = S R := ⟨_, rfl⟩
  have KL : Hid (∀ wx, Calls Tryz.prog 116 #[.string (bY.extract 5 bY.size)] wx fun e w' => ∃ v, e = .returned (.tuple #[.string bN, v, .string bR, .bool true]) ∧ w'.ownsRow wx.heap.size 9 1 v L.length (L.map strV) ∧ Below wx.heap.size wx w') := fun wx => by
    rw [HE5.out, hbN, hbR, hN', hR, hL]
    refine (refListOf_any r wx (by omega)).mono fun e w' h => ?_
    rcases h with ⟨h, -⟩ | ⟨-, v, h1, h2, -, h3⟩
    · rw [hyes2] at h; cases h
    · exact ⟨v, h1, h2, h3⟩
  rw [← hr, ← hR] at hne
  have hbq : (bR.toList == []) = false := by
    rw [hbR, S_toList]
    cases e : R with
    | nil => rw [e] at hne; cases hne
    | cons a b => rfl
  have HER : Hid (lineEr P l = 1) := by
    show _ = _
    rw [hER]; unfold stmtEr sentN
    rw [hyes, hx, hy, g1, g2, g3, g4, g5, g6, ← hr, hyes2, ← hR, hne]; rfl
  have HWB : Hid (w.heap.size ≤ W.heap.size) := HBW.out.1.size
  clear g1 g2 g3 g4 g5 g6 hp5 hyes2 hr hN' hR hL hne hbN hbR
  clear hER hQ hxk hv hp hyes hcut hat hbe hil hx hy hx' hy' lx ly hbxz hbYz hbx hbY
  clear hst hm1 hm2 hm3 hS hs hsl hsz hz hBW0
  go_enter Tryz.func80, Tryz.ntmps80
  go_wp2_with fail
  rw [← hW]
  clear hW
  refine (K1.out _).mono ?_
  rintro e wq ⟨rfl, hwq⟩
  obtain rfl := hwq.symm
  clear hwq K1
  go_wp2_with fail
  refine (K2.out _).mono ?_
  rintro e wq ⟨rfl, hwq⟩
  obtain rfl := hwq.symm
  clear hwq K2
  go_wp2_with fail
  go_loop [18] (fun t => ∃ k : Nat, k ≤ i ∧ t = .int .i64 k) (fun t => (i - intOf t).toNat)
  case atStart => exact ⟨0, Nat.zero_le _, rfl⟩
  case round =>
  obtain ⟨k, hk, rfl⟩ := hrel
  by_cases hlt : k < i
  · have hki : (k : Int) ≤ s.size := by omega
    have hki2 : (k : Int) < s.size := by omega
    go_wp2_with (go_at_call 115; refine (K3.out _ k hlt).mono ?_; rintro e wq ⟨rfl, hwq⟩; obtain rfl := hwq.symm; clear hwq)
    go_round
    case rel => exact ⟨k + 1, by omega, by go_num⟩
    case measure => simp [intOf]; omega
  obtain rfl : k = i := by omega
  have hki : (k : Int) ≤ s.size := by omega
  have hki2 : (k : Int) < s.size := by omega
  clear K3 hlt hk
  go_upto_region 26 with (go_at_call 115; refine (K4.out _).mono ?_; rintro e wq ⟨rfl, hwq⟩; obtain rfl := hwq.symm; clear hwq)
  go_upto_region 30 with fail
  rw [HXB.out.1, HXB.out.2]
  go_wp2_with fail
  refine (K5.out _).mono ?_
  rintro e wq ⟨rfl, hwq⟩
  obtain rfl := hwq.symm
  clear hwq K5
  go_wp2_with fail
  refine (K6.out _).mono ?_
  rintro e wq ⟨rfl, hwq⟩
  obtain rfl := hwq.symm
  clear hwq K6
  go_wp2_with fail
  refine (K7.out _).mono ?_
  rintro e wq ⟨rfl, hwq⟩
  obtain rfl := hwq.symm
  clear hwq K7
  go_wp2_with fail
  refine (K8.out _).mono ?_
  rintro e wq ⟨rfl, hwq⟩
  obtain rfl := hwq.symm
  clear hwq K8
  go_wp2_with fail
  refine (K9.out _).mono ?_
  rintro e wq ⟨rfl, hwq⟩
  obtain rfl := hwq.symm
  clear hwq K9
  go_wp2_with fail
  obtain ⟨W1, hW1⟩ : ∃ W1, W1 = (W.alloc (stB ⟨#[99, 97, 108, 108]⟩ 0 0 (.slice none 0 0))).alloc (.cells #[.string bx, .string bY] 9) := ⟨_, rfl⟩
  have hb1 : Below W.heap.size W W1 := by rw [hW1]; repeat (with_reducible first | exact Below.refl _ _ | refine below_au ?_ _)
  have hk1 : W1.heap[W.heap.size]? = some (stB ⟨#[99, 97, 108, 108]⟩ 0 0 (.slice none 0 0)) := by rw [hW1]; exact block_keep (below1 _ _) (heap_new W _)
  rw [← hW1]
  clear hW1
  refine (KL.out _).mono ?_
  rintro e W2 ⟨lv, rfl, hlv, hb12⟩
  obtain ⟨la, lc, rfl⟩ := owns_form hlv
  have HLV : Hid (IsStrs W2 (.slice la L.length lc) L) := isStrs_of_owns hlv
  have hb2 : Below W.heap.size W W2 := hb1.trans (hb12.mono hb1.size)
  have HB2 : Hid (Below W.heap.size W W2 ∧ W2.heap[W.heap.size]? = some (stB ⟨#[99, 97, 108, 108]⟩ 0 0 (.slice none 0 0))) := ⟨hb2, block_keep hb12 hk1⟩
  replace c0 := cell_keep hb2 c0
  replace c1 := cell_keep hb2 c1
  replace c2 := cell_keep hb2 c2
  have HZW : Hid (W2.heap[w.heap.size + 1]? = some zero3) := block_keep hb2 HZB.out
  replace z0 := cell_keep hb2 z0
  replace z1 := cell_keep hb2 z1
  replace z2 := cell_keep hb2 z2
  replace y0 := frozen_of_block HZW.out 0
  replace y1 := frozen_of_block HZW.out 1
  replace y2 := frozen_of_block HZW.out 2
  have HB8w : Hid (Below w.heap.size w W2) := HBW.out.1.trans (hb2.mono HWB.out)
  clear hb2 hb1 hb12 hk1 hlv KL f0 f1 f2
  go_wp2_with fail
  have hres := res_cells (HZW.out) (.slice a1 m1 n1) (.slice a2 m2 n2) (.slice a3 m3 n3)
  obtain ⟨r0, r1, r2⟩ := hres
  refine bodyPost_ret (v := .tuple #[.agg #[.slice a1 m1 n1, .slice a2 m2 n2, .slice a3 m3 n3], .int .i64 2, .int .i64 1]) (by simp [results, Tryz.results80, go_sem, r0, r1, r2]) rfl ?_
  exact ⟨a1, m1, n1, a2, m2, n2, a3, m3, n3, by rw [HAT.out, HER.out], fun q => absurd (HER.out.symm.trans q) (by decide), line_bad HBW.out.2 HB8w.out _ _ _⟩
end Go.Proofs.YtakmmpbkojhmhaaGreatDoor

/-
  The document's readLine: lines of statements: calls.
-/
namespace Go.Proofs.YtakmmpbkojhmhaaGreatDoor
open Go.RowKit Go.Extern.Stop Go.Stop Go.Extern

/-- What a slice holds is put behind a row of one's own. -/
theorem append_list (w : World) (B : Nat) (u : Value) (ss : List Bs) (hu : w.ownsRow B 9 1 u ss.length (ss.map strV)) (hB : B ≤ w.heap.size) (a : Option Addr) (c : Nat) (L : List Bs) (hL : IsStrs w (.slice a L.length c) L) (hl : ss.length + L.length ≤ 1000000) (ty : TypeId) :
    ∃ v' w', (Builtin.append_ #[39, 39] ty #[u, .slice a L.length c]).run Tryz.prog w = .ok v' w' ∧ w'.ownsRow B 9 1 v' (ss.length + L.length) ((ss ++ L).map strV) ∧ Below B w w' := by
  obtain ⟨i0, hi', hz0, hz1, hz2⟩ := info_parts Tryz.infoString
  obtain ⟨a', c', e, hc⟩ := isStrs_row hL
  have hll : (L.map strV).length = L.length := by simp
  rw [hll] at e hc
  cases e
  cases a with
  | some ad =>
    obtain ⟨v', w', h1, h2, h3, _⟩ := run_append_own (P := Tryz.prog) w B 39 ty 9 i0 (.string ⟨#[]⟩) 1 16 Tryz.underlying39 hi' hz0 hz1 hz2 rfl (by decide) u ss.length (ss.map strV) hu ad L.length c (L.map strV) (by simp)
      (fun j v hj => by
        have hjl : j < L.length := by have := (List.getElem?_eq_some_iff.1 hj).1; simpa using this
        obtain ⟨b, o, ea, hcell⟩ := hc j hjl
        cases ea
        rw [Addr.add_lit, hcell, hj]) (fun v hv => by obtain ⟨y, _, rfl⟩ := List.mem_map.1 hv; rfl) (by unfold maxLen; omega) (by omega) hB
    exact ⟨v', w', h1, by rw [List.map_append]; exact h2, below_of_grown h3 hB hu (Nat.le_refl _)⟩
  | none =>
    have hn : L = [] := by
      cases L with
      | nil => rfl
      | cons x r =>
        obtain ⟨b, o, ea, _⟩ := hc 0 (by simp)
        cases ea
    subst hn
    obtain ⟨ua, uc, rfl⟩ := owns_form hu
    refine ⟨.slice ua ss.length uc, w, ?_, by simpa using hu, Below.refl _ _⟩
    have hcap : ss.length ≤ uc := by
      rcases hu.2 with ⟨_, q⟩ | ⟨g, cap, cur, q, _, _, h5, _⟩
      · omega
      · cases q; exact h5
    simp [Builtin.append_, run_underlying Tryz.underlying39, sizeOf, typeInfo, hi', Builtin.lenOf, Builtin.firstCells, hcap]
    cases ua <;> simp [storeCells]
theorem own_two (w : World) (a b : Bs) : (w.alloc (.cells #[.string (S a), .string (S b)] 9)).ownsRow w.heap.size 9 1 (.slice (some ⟨w.heap.size, 0, none⟩) 2 2) [a, b].length ([a, b].map strV) :=
  ⟨rfl, Or.inr ⟨w.heap.size, 2, _, rfl, Nat.le_refl _, heap_new w _, Nat.le_refl _, by unfold maxLen; omega, rfl, rfl⟩⟩

set_option maxRecDepth 100000 in
set_option maxHeartbeats 8000000 in
theorem line_call1 {B : Nat} {P : ProgD} {v1 v2 v3 : Value} {ps qs : List Value} (l : Bs) (w : World) (hst : Rq w B P v1 v2 v3 ps qs) (hz : l.length ≤ 50000) (hS : SmallP P) (hv : Lib.hasPrefix l kv4 = false) (hp : Lib.hasPrefix l kf3 = false) (hyes : (Lib.cut l eqs).2.2 = true) (x y : Bs) (hx : (Lib.cut l eqs).1 = x) (hy : (Lib.cut l eqs).2.1 = y) (g1 : Lib.hasPrefix x [42] = false) (g2 : (y == kNew) = false) (g3 : Lib.hasPrefix y [38] = false) (g4 : Lib.hasPrefix y [42] = false) (g5 : Lib.hasPrefix y kf3 = false) (g6 : Lib.hasPrefix y kc5 = true) (hyes2 : listF (y.drop 5) = true) (hne : (listB (y.drop 5)).isEmpty = true) :
    Calls Tryz.prog 80 #[.agg #[v1, v2, v3], .string (S l)] w fun e w' => LinePost B w w' P l e := by
  obtain ⟨a1, n1, rfl⟩ := owns_form hst.o1
  obtain ⟨a2, n2, rfl⟩ := owns_form hst.o2
  obtain ⟨a3, n3, rfl⟩ := owns_form hst.o3
  obtain ⟨m1, hm1⟩ : ∃ m, m = P.vars.length := ⟨_, rfl⟩
  obtain ⟨m2, hm2⟩ : ∃ m, m = P.funs.length := ⟨_, rfl⟩
  obtain ⟨m3, hm3⟩ : ∃ m, m = P.stmts.length := ⟨_, rfl⟩
  rw [← hm1, ← hm2, ← hm3] at hst ⊢
  have HMM : Hid (m1 = P.vars.length ∧ m2 = P.funs.length ∧ m3 = P.stmts.length) := ⟨hm1, hm2, hm3⟩
  have HSM : Hid (SmallP P) := hS
  obtain ⟨s, hs⟩ : ∃ s, s = S l := ⟨_, rfl⟩
  have hsl : s.data.toList = l := by rw [hs, S_data]
  have hsz : s.size = l.length := by rw [hs, S_size]
  have hsz2 : s.size ≤ 100000 := by omega
  rw [← hs]
  obtain ⟨W, hW⟩ : ∃ W, W = (w.alloc (.cells #[.slice a1 m1 n1, .slice a2 m2 n2, .slice a3 m3 n3] 43)).alloc zero3 := ⟨_, rfl⟩
  have hBW0 : Below w.heap.size w W := by rw [hW]; exact (below1 w _).alloc (by simp) _
  have HBW : Hid (Below w.heap.size w W ∧ B ≤ w.heap.size) := ⟨hBW0, hst.size⟩
  have HST : Hid (Rp W B w.heap.size P (.slice a1 m1 n1) (.slice a2 m2 n2) (.slice a3 m3 n3) ps qs) := by
    show Rp _ _ _ _ _ _ _ _ _
    rw [hW]; exact hst.rebox.below (below1 _ _)
  have HZB : Hid (W.heap[w.heap.size + 1]? = some zero3) := by
    show _ = _
    rw [hW]
    have := heap_new (w.alloc (.cells #[.slice a1 m1 n1, .slice a2 m2 n2, .slice a3 m3 n3] 43)) zero3
    simpa using this
  obtain ⟨c0, c1, c2⟩ := HST.out.cells
  have f0 := HST.out.frz 0
  have f1 := HST.out.frz 1
  have f2 := HST.out.frz 2
  have z0 : W.cell? ⟨w.heap.size + 1, 0, none⟩ = some (.slice none 0 0) := by rw [Lib.cell_of_heap HZB.out]; rfl
  have z1 : W.cell? ⟨w.heap.size + 1, 1, none⟩ = some (.slice none 0 0) := by rw [Lib.cell_of_heap HZB.out]; rfl
  have z2 : W.cell? ⟨w.heap.size + 1, 2, none⟩ = some (.slice none 0 0) := by rw [Lib.cell_of_heap HZB.out]; rfl
  have y0 := frozen_of_block HZB.out 0
  have y1 := frozen_of_block HZB.out 1
  have y2 := frozen_of_block HZB.out 2
  have K1 : Hid (∀ wx, Calls Tryz.prog 115 #[.string s, .string ⟨#[118, 97, 114, 32]⟩] wx fun e w' => e = .returned (.bool false) ∧ w' = wx) := fun wx => by
    have := refStarts_any l [118, 97, 114, 32] wx
    rw [← hs] at this
    rw [show Lib.hasPrefix l [118, 97, 114, 32] = false from hv] at this
    exact this
  have K2 : Hid (∀ wx, Calls Tryz.prog 115 #[.string s, .string ⟨#[102, 110, 32]⟩] wx fun e w' => e = .returned (.bool false) ∧ w' = wx) := fun wx => by
    have := refStarts_any l [102, 110, 32] wx
    rw [← hs] at this
    rw [show Lib.hasPrefix l [102, 110, 32] = false from hp] at this
    exact this
  have HAT : Hid (lineAt l = 2) := by show _ = _; unfold lineAt; rw [if_neg (by rw [hv]; decide), if_neg (by rw [hp]; decide)]
  have hER : lineEr P l = stmtEr P l := by unfold lineEr; rw [if_neg (by rw [hv]; decide), if_neg (by rw [hp]; decide)]
  have hQ : lineQ P l = stmtQ P l := by unfold lineQ; rw [if_neg (by rw [hv]; decide), if_neg (by rw [hp]; decide)]
  have hxk : ∀ k, k ≤ s.size → s.extract k s.size = S (l.drop k) := fun k hk => by rw [extract_S, hsl, List.take_of_length_le]; simp; omega
  obtain ⟨i, hil, hcut, hat, hbe⟩ := cut_found l hyes
  have K3 : Hid (∀ wx k, k < i → Calls Tryz.prog 115 #[.string (s.extract k s.size), .string ⟨#[32, 61, 32]⟩] wx fun e w' => e = .returned (.bool false) ∧ w' = wx) := fun wx k hk => by
    rw [hxk k (by omega), ← hbe k hk]
    exact refStarts_any (l.drop k) eqs wx
  have K4 : Hid (∀ wx, Calls Tryz.prog 115 #[.string (s.extract i s.size), .string ⟨#[32, 61, 32]⟩] wx fun e w' => e = .returned (.bool true) ∧ w' = wx) := fun wx => by
    rw [hxk i (by omega), ← hat]
    exact refStarts_any (l.drop i) eqs wx
  have hx' : x = l.take i := by rw [← hx, hcut]
  have hy' : y = l.drop (i + 3) := by rw [← hy, hcut]
  obtain ⟨bx, hbx⟩ : ∃ b, b = S x := ⟨_, rfl⟩
  obtain ⟨bY, hbY⟩ : ∃ b, b = S y := ⟨_, rfl⟩
  have HXB : Hid (s.extract 0 i = bx ∧ s.extract (i + 3) s.size = bY) := ⟨by rw [extract_S, hsl, hbx, hx']; simp, by rw [hxk (i + 3) (by omega), hbY, hy']⟩
  have lx : x.length ≤ 50000 := by rw [hx']; simp; omega
  have ly : y.length ≤ 50000 := by rw [hy']; simp; omega
  have hbxz : bx.size = x.length := by rw [hbx, S_size]
  have hbYz : bY.size = y.length := by rw [hbY, S_size]
  have hbx5 : bx.size ≤ 50000 := by omega
  have hbY5 : bY.size ≤ 50000 := by omega
  have hi3 : i + 3 ≤ s.size := by omega
  have hii : (i : Int) + 3 ≤ s.size := by omega
  have hin : ((i : Int) == (s.size : Int)) = false := beq_eq_false_iff_ne.2 (by omega)
  have K5 : Hid (∀ wx, Calls Tryz.prog 115 #[.string bx, .string ⟨#[42]⟩] wx fun e w' => e = .returned (.bool false) ∧ w' = wx) := fun wx => by
    have := refStarts_any x [42] wx
    rw [← hbx, show Lib.hasPrefix x [42] = false from g1] at this
    exact this
  have hyn : (bY.toList == [110, 101, 119]) = false := by rw [hbY, S_toList]; exact g2
  have K6 : Hid (∀ wx, Calls Tryz.prog 115 #[.string bY, .string ⟨#[38]⟩] wx fun e w' => e = .returned (.bool false) ∧ w' = wx) := fun wx => by
    have := refStarts_any y [38] wx
    rw [← hbY, show Lib.hasPrefix y [38] = false from g3] at this
    exact this
  have K7 : Hid (∀ wx, Calls Tryz.prog 115 #[.string bY, .string ⟨#[42]⟩] wx fun e w' => e = .returned (.bool false) ∧ w' = wx) := fun wx => by
    have := refStarts_any y [42] wx
    rw [← hbY, show Lib.hasPrefix y [42] = false from g4] at this
    exact this
  have K8 : Hid (∀ wx, Calls Tryz.prog 115 #[.string bY, .string ⟨#[102, 110, 32]⟩] wx fun e w' => e = .returned (.bool false) ∧ w' = wx) := fun wx => by
    have := refStarts_any y [102, 110, 32] wx
    rw [← hbY, show Lib.hasPrefix y [102, 110, 32] = false from g5] at this
    exact this
  have K9 : Hid (∀ wx, Calls Tryz.prog 115 #[.string bY, .string ⟨#[99, 97, 108, 108, 32]⟩] wx fun e w' => e = .returned (.bool true) ∧ w' = wx) := fun wx => by
    have := refStarts_any y [99, 97, 108, 108, 32] wx
    rw [← hbY, show Lib.hasPrefix y [99, 97, 108, 108, 32] = true from g6] at this
    exact this
  have hp5 : 5 ≤ y.length := pre_size g6
  have hp5i : (5 : Int) ≤ bY.size := by omega
  obtain ⟨r, hr⟩ : ∃ r, r = y.drop 5 := ⟨_, rfl⟩
  have HE5 : Hid (bY.extract 5 bY.size = S r) := by
    show _ = _
    rw [extract_S, hbY, S_data, hr, List.take_of_length_le]; rw [S_size]; simp
  have hrl : r.length ≤ 50000 := by rw [hr]; simp only [List.length_drop]; omega
  rw [← hr] at hyes2
  obtain ⟨N, hN'⟩ : ∃ N, N = listN r := ⟨_, rfl⟩
  obtain ⟨R, hR⟩ : ∃ R, R = listB r := ⟨_, rfl⟩
  obtain ⟨L, hL⟩ : ∃ L, L = listL r := ⟨_, rfl⟩
  have lN : N.length ≤ 100000 := by rw [hN']; have := (cut_len2 r [40]).1; unfold listN; omega
  have hLn : L.length ≤ 50002 := by rw [hL]; have := listL_many r; omega
  have HLL : Hid (∀ q ∈ L, q.length ≤ 100000) := fun q hq => by rw [hL] at hq; exact Nat.le_trans (listL_each r q hq) (by omega)
  obtain ⟨bN, hbN⟩ : ∃ b, b = S N := ⟨_, rfl⟩
  obtain ⟨bR, hbR⟩ : ∃ b, b = S R := ⟨_, rfl⟩
  have KL : Hid (∀ wx, Calls Tryz.prog 116 #[.string (bY.extract 5 bY.size)] wx fun e w' => ∃ v, e = .returned (.tuple #[.string bN, v, .string bR, .bool true]) ∧ w'.ownsRow wx.heap.size 9 1 v L.length (L.map strV) ∧ Below wx.heap.size wx w') := fun wx => by
    rw [HE5.out, hbN, hbR, hN', hR, hL]
    refine (refListOf_any r wx (by omega)).mono fun e w' h => ?_
    rcases h with ⟨h, -⟩ | ⟨-, v, h1, h2, -, h3⟩
    · rw [hyes2] at h; cases h
    · exact ⟨v, h1, h2, h3⟩
  rw [← hr, ← hR] at hne
  have hbq : (bR.toList == []) = true := by
    rw [hbR, S_toList]
    cases e : R with
    | nil => rfl
    | cons a b => rw [e] at hne; cases hne
  have hN : sentN x y = some (x :: N :: L) := by
    unfold sentN
    rw [g1, g2, g3, g4, g5, g6, ← hr, hyes2, ← hR, hne, hN', hL]; rfl
  have hK : sentK x y = kCall := by
    unfold sentK
    rw [g1, g2, g3, g4, g5, g6]; rfl
  obtain ⟨E, hE⟩ : ∃ E, E = lookE P.vars (x :: N :: L) := ⟨_, rfl⟩
  have hEc := lookE_cases P.vars (x :: N :: L)
  rw [← hE] at hEc
  have KU : Hid (∀ W2 nv, Below W.heap.size W W2 → W2.heap[W.heap.size]? = some (stB ⟨#[99, 97, 108, 108]⟩ 0 0 (.slice none 0 0)) → IsStrs W2 nv (x :: N :: L) → Calls Tryz.prog 117 #[.agg #[.slice a1 m1 n1, .slice a2 m2 n2, .slice a3 m3 n3], nv] W2 fun e w' => ∃ v', e = .returned (.tuple #[v', .int .i64 E]) ∧ (E = 0 → w'.ownsRow (W.heap.size + 1) 3 1 v' (L.length + 2) (((x :: N :: L).map (idx P.vars)).map intV)) ∧ Below W.heap.size W w' ∧ w'.heap[W.heap.size]? = some (stB ⟨#[99, 97, 108, 108]⟩ 0 0 (.slice none 0 0))) := fun W2 nv hb hk hn => by
    rw [hE]
    refine (refLookUp_any P (x :: N :: L) nv _ _ _ W2 hS (by simp only [List.length_cons]; omega) (fun q hq => by
      simp only [List.mem_cons] at hq
      rcases hq with rfl | rfl | hq
      · omega
      · omega
      · exact Nat.le_trans (HLL.out q hq) (by omega)) (HST.out.below hb).isProg hn).mono fun e w' h => ?_
    obtain ⟨v', he, ho, hb'⟩ := h
    exact ⟨v', he, fun q => owns_mono (ho q) (Array.getElem?_eq_some_iff.1 hk).1, hb.trans (hb'.mono hb.size), block_keep hb' hk⟩
  have HER1 : Hid (lineEr P l = E) := by show _ = _; rw [hER, stmt_er hyes hx hy hN (by rw [hK]; rfl), hE]
  have HQ1 : Hid (lineQ P l = { P with stmts := P.stmts ++ [⟨kCall, ((x :: N :: L).map (idx P.vars)).headD 0, ((x :: N :: L).map (idx P.vars)).getD 1 0, ((x :: N :: L).map (idx P.vars)).drop 2⟩] }) := by show _ = _; rw [hQ, stmt_q hx hy hN hK rfl]
  have HWB : Hid (w.heap.size ≤ W.heap.size) := HBW.out.1.size
  have HS12 : Hid (bx = S x ∧ bN = S N) := ⟨hbx, hbN⟩
  clear g1 g2 g3 g4 g5 g6 hp5 hyes2 hr hN' hR hL hne hbN hbR hN hK hE
  clear hER hQ hxk hv hp hyes hcut hat hbe hil hx hy hx' hy' lx ly hbxz hbYz hbx hbY
  clear hst hm1 hm2 hm3 hS hs hsl hsz hz hBW0
  go_enter Tryz.func80, Tryz.ntmps80
  go_wp2_with fail
  rw [← hW]
  clear hW
  refine (K1.out _).mono ?_
  rintro e wq ⟨rfl, hwq⟩
  obtain rfl := hwq.symm
  clear hwq K1
  go_wp2_with fail
  refine (K2.out _).mono ?_
  rintro e wq ⟨rfl, hwq⟩
  obtain rfl := hwq.symm
  clear hwq K2
  go_wp2_with fail
  go_loop [18] (fun t => ∃ k : Nat, k ≤ i ∧ t = .int .i64 k) (fun t => (i - intOf t).toNat)
  case atStart => exact ⟨0, Nat.zero_le _, rfl⟩
  case round =>
  obtain ⟨k, hk, rfl⟩ := hrel
  by_cases hlt : k < i
  · have hki : (k : Int) ≤ s.size := by omega
    have hki2 : (k : Int) < s.size := by omega
    go_wp2_with (go_at_call 115; refine (K3.out _ k hlt).mono ?_; rintro e wq ⟨rfl, hwq⟩; obtain rfl := hwq.symm; clear hwq)
    go_round
    case rel => exact ⟨k + 1, by omega, by go_num⟩
    case measure => simp [intOf]; omega
  obtain rfl : k = i := by omega
  have hki : (k : Int) ≤ s.size := by omega
  have hki2 : (k : Int) < s.size := by omega
  clear K3 hlt hk
  go_upto_region 26 with (go_at_call 115; refine (K4.out _).mono ?_; rintro e wq ⟨rfl, hwq⟩; obtain rfl := hwq.symm; clear hwq)
  go_upto_region 30 with fail
  rw [HXB.out.1, HXB.out.2]
  go_wp2_with fail
  refine (K5.out _).mono ?_
  rintro e wq ⟨rfl, hwq⟩
  obtain rfl := hwq.symm
  clear hwq K5
  go_wp2_with fail
  refine (K6.out _).mono ?_
  rintro e wq ⟨rfl, hwq⟩
  obtain rfl := hwq.symm
  clear hwq K6
  go_wp2_with fail
  refine (K7.out _).mono ?_
  rintro e wq ⟨rfl, hwq⟩
  obtain rfl := hwq.symm
  clear hwq K7
  go_wp2_with fail
  refine (K8.out _).mono ?_
  rintro e wq ⟨rfl, hwq⟩
  obtain rfl := hwq.symm
  clear hwq K8
  go_wp2_with fail
  refine (K9.out _).mono ?_
  rintro e wq ⟨rfl, hwq⟩
  obtain rfl := hwq.symm
  clear hwq K9
  go_wp2_with fail
  obtain ⟨W1, hW1⟩ : ∃ W1, W1 = (W.alloc (stB ⟨#[99, 97, 108, 108]⟩ 0 0 (.slice none 0 0))).alloc (.cells #[.string bx, .string bY] 9) := ⟨_, rfl⟩
  have hb1 : Below W.heap.size W W1 := by rw [hW1]; repeat (with_reducible first | exact Below.refl _ _ | refine below_au ?_ _)
  have hk1 : W1.heap[W.heap.size]? = some (stB ⟨#[99, 97, 108, 108]⟩ 0 0 (.slice none 0 0)) := by rw [hW1]; exact block_keep (below1 _ _) (heap_new W _)
  rw [← hW1]
  clear hW1
  refine (KL.out _).mono ?_
  rintro e W2 ⟨lv, rfl, hlv, hb12⟩
  obtain ⟨la, lc, rfl⟩ := owns_form hlv
  have HLV : Hid (IsStrs W2 (.slice la L.length lc) L) := isStrs_of_owns hlv
  have hb2 : Below W.heap.size W W2 := hb1.trans (hb12.mono hb1.size)
  have HB2 : Hid (Below W.heap.size W W2 ∧ W2.heap[W.heap.size]? = some (stB ⟨#[99, 97, 108, 108]⟩ 0 0 (.slice none 0 0))) := ⟨hb2, block_keep hb12 hk1⟩
  replace c0 := cell_keep hb2 c0
  replace c1 := cell_keep hb2 c1
  replace c2 := cell_keep hb2 c2
  have HZW : Hid (W2.heap[w.heap.size + 1]? = some zero3) := block_keep hb2 HZB.out
  replace z0 := cell_keep hb2 z0
  replace z1 := cell_keep hb2 z1
  replace z2 := cell_keep hb2 z2
  replace y0 := frozen_of_block HZW.out 0
  replace y1 := frozen_of_block HZW.out 1
  replace y2 := frozen_of_block HZW.out 2
  have HB8w : Hid (Below w.heap.size w W2) := HBW.out.1.trans (hb2.mono HWB.out)
  clear hb2 hb1 hb12 hk1 hlv KL f0 f1 f2
  obtain ⟨v5, w5, hr5, ho5, hb5⟩ := append_list (W2.alloc (.cells #[.string (S x), .string (S N)] 9)) W2.heap.size (.slice (some ⟨W2.heap.size, 0, none⟩) 2 2) [x, N] (own_two W2 x N) (by simp) la lc L (HLV.out.below (below1 _ _)) (by simp; omega) 39
  obtain ⟨ga, gc, rfl⟩ := owns_form ho5
  have hlen : [x, N].length + L.length = L.length + 2 := by simp; omega
  rw [hlen] at hr5 ho5
  rw [← HS12.out.1, ← HS12.out.2] at hr5 hb5
  have HN2 : Hid (IsStrs w5 (.slice ga (L.length + 2) gc) (x :: N :: L)) := isStrs_of_owns (ss := x :: N :: L) ho5
  have hb5' : Below W2.heap.size W2 w5 := (below1 W2 _).trans hb5
  have HB5 : Hid (Below W.heap.size W w5) := HB2.out.1.trans (hb5'.mono HB2.out.1.size)
  have HK5 : Hid (w5.heap[W.heap.size]? = some (stB ⟨#[99, 97, 108, 108]⟩ 0 0 (.slice none 0 0))) := block_keep hb5' HB2.out.2
  have HR5 : Hid ((Builtin.append_ #[39, 39] 39 #[.slice (some ⟨W2.heap.size, 0, none⟩) 2 2, .slice la L.length lc]).run Tryz.prog (W2.alloc (.cells #[.string bx, .string bN] 9)) = .ok (.slice ga (L.length + 2) gc) w5) := hr5
  replace c0 := cell_keep hb5' c0
  replace c1 := cell_keep hb5' c1
  replace c2 := cell_keep hb5' c2
  clear hr5 ho5 hb5 hb5' hlen HZW HB8w z0 z1 z2 y0 y1 y2
  obtain ⟨nX, hnX⟩ : ∃ n, n = L.length + 2 := ⟨_, rfl⟩
  rw [← hnX] at HN2 HR5 KU
  have HNX : Hid (nX = L.length + 2) := hnX
  clear hnX
  go_upto_region 56 with (at_builtin; refine Lib.wpList_append_run _ rfl _ _ _ _ rfl _ _ rfl rfl _ _ HR5.out ?_)
  go_wp2_with fail
  refine (KU.out w5 _ HB5.out HK5.out HN2.out).mono ?_
  clear HB5 HK5 HN2 HR5
  have f0 : True := trivial
  have f1 : True := trivial
  have f2 : True := trivial
  have z0 : True := trivial
  have z1 : True := trivial
  have z2 : True := trivial
  have y0 : True := trivial
  have y1 : True := trivial
  have y2 : True := trivial
  rintro e w8 ⟨v', rfl, hown, hb8, hk8⟩
  have HOWN : Hid (E = 0 → w8.ownsRow (W.heap.size + 1) 3 1 v' nX (((x :: N :: L).map (idx P.vars)).map intV)) := hown
  have HB8 : Hid (Below W.heap.size W w8) := hb8
  have HB8w : Hid (Below w.heap.size w w8) := HBW.out.1.trans (hb8.mono HWB.out)
  have HZ8 : Hid (w8.heap[w.heap.size + 1]? = some zero3) := block_keep hb8 HZB.out
  have HK8 : Hid (w8.heap[W.heap.size]? = some (stB ⟨#[99, 97, 108, 108]⟩ 0 0 (.slice none 0 0))) := hk8
  have HST8 : Hid (Rp w8 B w.heap.size P (.slice a1 m1 n1) (.slice a2 m2 n2) (.slice a3 m3 n3) ps qs) := HST.out.below hb8
  clear hown hb8 hk8 c0 c1 c2 z0 z1 z2 y0 y1 y2 f0 f1 f2 KU
  obtain ⟨c0, c1, c2⟩ := HST8.out.cells
  have z0 : w8.cell? ⟨w.heap.size + 1, 0, none⟩ = some (.slice none 0 0) := by rw [Lib.cell_of_heap HZ8.out]; rfl
  have z1 : w8.cell? ⟨w.heap.size + 1, 1, none⟩ = some (.slice none 0 0) := by rw [Lib.cell_of_heap HZ8.out]; rfl
  have z2 : w8.cell? ⟨w.heap.size + 1, 2, none⟩ = some (.slice none 0 0) := by rw [Lib.cell_of_heap HZ8.out]; rfl
  have y0 := frozen_of_block HZ8.out 0
  have y1 := frozen_of_block HZ8.out 1
  have y2 := frozen_of_block HZ8.out 2
  rcases hEc with rfl | rfl | rfl
  case inr.inl =>
    have HER : Hid (lineEr P l = 1) := HER1.out
    have HZW := HZ8
    go_wp2_with fail
    have hres := res_cells (HZW.out) (.slice a1 m1 n1) (.slice a2 m2 n2) (.slice a3 m3 n3)
    obtain ⟨r0, r1, r2⟩ := hres
    refine bodyPost_ret (v := .tuple #[.agg #[.slice a1 m1 n1, .slice a2 m2 n2, .slice a3 m3 n3], .int .i64 2, .int .i64 1]) (by simp [results, Tryz.results80, go_sem, r0, r1, r2]) rfl ?_
    exact ⟨a1, m1, n1, a2, m2, n2, a3, m3, n3, by rw [HAT.out, HER.out], fun q => absurd (HER.out.symm.trans q) (by decide), line_bad HBW.out.2 HB8w.out _ _ _⟩
  case inr.inr =>
    have HER : Hid (lineEr P l = 6) := HER1.out
    have HZW := HZ8
    go_wp2_with fail
    have hres := res_cells (HZW.out) (.slice a1 m1 n1) (.slice a2 m2 n2) (.slice a3 m3 n3)
    obtain ⟨r0, r1, r2⟩ := hres
    refine bodyPost_ret (v := .tuple #[.agg #[.slice a1 m1 n1, .slice a2 m2 n2, .slice a3 m3 n3], .int .i64 2, .int .i64 6]) (by simp [results, Tryz.results80, go_sem, r0, r1, r2]) rfl ?_
    exact ⟨a1, m1, n1, a2, m2, n2, a3, m3, n3, by rw [HAT.out, HER.out], fun q => absurd (HER.out.symm.trans q) (by decide), line_bad HBW.out.2 HB8w.out _ _ _⟩
  case inl =>
  have HER : Hid (lineEr P l = 0) := HER1.out
  have hown := HOWN.out rfl
  have t0 : w8.cell? ⟨W.heap.size, 0, none⟩ = some (.string ⟨#[99, 97, 108, 108]⟩) := by rw [Lib.cell_of_heap HK8.out]; rfl
  have t1 : w8.cell? ⟨W.heap.size, 1, none⟩ = some (.int .i64 0) := by rw [Lib.cell_of_heap HK8.out]; rfl
  have t2 : w8.cell? ⟨W.heap.size, 2, none⟩ = some (.int .i64 0) := by rw [Lib.cell_of_heap HK8.out]; rfl
  have t3 : w8.cell? ⟨W.heap.size, 3, none⟩ = some (.slice none 0 0) := by rw [Lib.cell_of_heap HK8.out]; rfl
  have u1 := frozen_of_block HK8.out 1
  have u2 := frozen_of_block HK8.out 2
  have u3 := frozen_of_block HK8.out 3
  obtain ⟨ix, hix⟩ : ∃ z, z = idx P.vars x := ⟨_, rfl⟩
  have hnX := HNX.out
  obtain ⟨iy, hiy⟩ : ∃ z, z = idx P.vars N := ⟨_, rfl⟩
  obtain ⟨A, hA⟩ : ∃ A, A = L.map (idx P.vars) := ⟨_, rfl⟩
  have hzs : (x :: N :: L).map (idx P.vars) = ix :: iy :: A := by rw [hix, hiy, hA]; rfl
  have hAl : A.length = L.length := by rw [hA]; simp
  rw [hzs] at hown
  obtain ⟨g, c, rfl, hcn, hIO⟩ := intsOwn_drop hown 2 (by omega) (by omega)
  have hgb : W.heap.size + 1 ≤ g := (hown.lt g rfl).1
  have e0 : w8.cell? ⟨g, 0, none⟩ = some (.int .i64 ix) := by
    obtain ⟨b, o, q1, q2⟩ := isInts_at (isCap_of_owns hown).1 0 (by simp)
    cases q1; exact q2
  have e1 : w8.cell? ⟨g, 1, none⟩ = some (.int .i64 iy) := by
    obtain ⟨b, o, q1, q2⟩ := isInts_at (isCap_of_owns hown).1 1 (by simp)
    cases q1; exact q2
  have hne1 : g ≠ W.heap.size := by omega
  have hci : (2 : Int) ≤ nX := by omega
  have hci2 : (nX : Int) ≤ c := by omega
  have hci3 : (1 : Int) < nX := by omega
  have hci4 : (0 : Int) < nX := by omega
  obtain ⟨aa, haa⟩ : ∃ aa : Option Addr, aa = if c = 2 then some ⟨g, 0, none⟩ else some ⟨g, 2, none⟩ := ⟨_, rfl⟩
  have hIO2 : IntsOwn w8 (.slice aa (nX - 2) (c - 2)) A := by
    by_cases q : c = 2
    · have hA0 : A = [] := List.eq_nil_of_length_eq_zero (by omega)
      refine ⟨aa, c - 2, ?_, by rw [hA0]; simp, Or.inl hA0⟩
      rw [hA0, show nX - 2 = 0 by omega]; rfl
    · rw [haa, if_neg q]; exact hIO
  obtain ⟨W9, hW9⟩ : ∃ W9, W9 = ((w8.setCell ⟨W.heap.size, 1, none⟩ (.int .i64 ix)).setCell ⟨W.heap.size, 2, none⟩ (.int .i64 iy)).setCell ⟨W.heap.size, 3, none⟩ (.slice aa (nX - 2) (c - 2)) := ⟨_, rfl⟩
  have hB9 : Below W.heap.size W W9 := by rw [hW9]; exact below_setu (below_setu (below_setu HB8.out (Nat.le_refl _)) (Nat.le_refl _)) (Nat.le_refl _)
  have hB9w : Below w.heap.size w W9 := HBW.out.1.trans (hB9.mono HWB.out)
  have hK9 : W9.heap[W.heap.size]? = some (stB ⟨#[99, 97, 108, 108]⟩ ix iy (.slice aa (nX - 2) (c - 2))) := by
    rw [hW9]; exact st_set (st_set (st_set HK8.out _) _) _
  have hIO9 : IntsOwn W9 (.slice aa (nX - 2) (c - 2)) A := by
    have k1 := st_set (i := 1) HK8.out (.int .i64 ix)
    have k2 := st_set (i := 2) k1 (.int .i64 iy)
    rw [hW9]
    exact ((hIO2.kept (kept_setCell (i := 1) HK8.out _) (by decide)).kept (kept_setCell (i := 2) k1 _) (by decide)).kept (kept_setCell (i := 3) k2 _) (by decide)
  obtain ⟨v', w7, hr0', d0, d1, ⟨xa, xn, xc, rfl⟩, hSt, hBe, hkp⟩ := (HST.out.below hB9).addStmt (by have := HSM.out.2.2.1; omega) ⟨kCall, ix, iy, A⟩ (.slice aa (nX - 2) (c - 2)) hIO9
  have HR : Hid ((Builtin.append_ #[41, 41] 41 #[.slice a3 m3 n3, .slice (some ⟨W9.heap.size, 0, none⟩) 1 1]).run Tryz.prog (W9.alloc (.cells #[.string ⟨#[99, 97, 108, 108]⟩, .int .i64 ix, .int .i64 iy, .slice aa (nX - 2) (c - 2)] 60)) = .ok (.slice xa xn xc) w7) := hr0'
  have HS7 : Hid (Rp (w7.setCell ⟨w.heap.size, 2, none⟩ (.slice xa xn xc)) B w.heap.size { P with stmts := P.stmts ++ [⟨kCall, ix, iy, A⟩] } (.slice a1 m1 n1) (.slice a2 m2 n2) (.slice xa xn xc) ps (qs ++ [.slice aa (nX - 2) (c - 2)]) ∧ Below B w (w7.setCell ⟨w.heap.size, 2, none⟩ (.slice xa xn xc)) ∧ KP w (w7.setCell ⟨w.heap.size, 2, none⟩ (.slice xa xn xc))) := ⟨hSt, (hB9w.mono HBW.out.2).trans hBe, kp_set (kp_kept hB9w hkp (by decide)) (Nat.le_refl _)⟩
  have HZ7 : Hid ((w7.setCell ⟨w.heap.size, 2, none⟩ (.slice xa xn xc)).heap[w.heap.size + 1]? = some zero3) := by
    show _ = _
    rw [other_block (by omega)]; exact hkp _ _ _ _ (block_keep hB9 HZB.out) (by decide)
  have HQ : Hid (lineQ P l = { P with stmts := P.stmts ++ [⟨kCall, ix, iy, A⟩] }) := by show _ = _; rw [HQ1.out, hzs]; rfl
  obtain ⟨j0, j1, j2⟩ := (HST.out.below hB9).cells
  have s0 : W9.cell? ⟨W.heap.size, 0, none⟩ = some (.string ⟨#[99, 97, 108, 108]⟩) := by rw [Lib.cell_of_heap hK9]; rfl
  have s1 : W9.cell? ⟨W.heap.size, 1, none⟩ = some (.int .i64 ix) := by rw [Lib.cell_of_heap hK9]; rfl
  have s2 : W9.cell? ⟨W.heap.size, 2, none⟩ = some (.int .i64 iy) := by rw [Lib.cell_of_heap hK9]; rfl
  have s3 : W9.cell? ⟨W.heap.size, 3, none⟩ = some (.slice aa (nX - 2) (c - 2)) := by rw [Lib.cell_of_heap hK9]; rfl
  clear hr0' hSt hBe hkp hIO hIO2 hIO9 hzs hix hiy hA hAl hown HOWN hB9 hB9w hK9 HQ1 HER1 hcn hgb c0 c1 c2 z0 z1 z2 y0 y1 y2 hnX
  go_upto_region 72 with fail
  rw [← haa, ← hW9]
  clear hW9 haa
  go_upto_region 73 with (at_builtin; refine Lib.wpList_append_run _ rfl _ _ _ _ rfl _ _ rfl rfl _ _ HR.out ?_)
  go_upto_region 74 with fail
  obtain ⟨W7, hW7⟩ : ∃ W7, W7 = w7.setCell ⟨w.heap.size, 2, none⟩ (.slice xa xn xc) := ⟨_, rfl⟩
  rw [← hW7] at HS7 HZ7 ⊢
  clear hW7
  obtain ⟨k0, k1, k2⟩ := HS7.out.1.cells
  have z0 : W7.cell? ⟨w.heap.size + 1, 0, none⟩ = some (.slice none 0 0) := by rw [Lib.cell_of_heap HZ7.out]; rfl
  have z1 : W7.cell? ⟨w.heap.size + 1, 1, none⟩ = some (.slice none 0 0) := by rw [Lib.cell_of_heap HZ7.out]; rfl
  have z2 : W7.cell? ⟨w.heap.size + 1, 2, none⟩ = some (.slice none 0 0) := by rw [Lib.cell_of_heap HZ7.out]; rfl
  have y0 := frozen_of_block HZ7.out 0
  have y1 := frozen_of_block HZ7.out 1
  have y2 := frozen_of_block HZ7.out 2
  go_wp2_with fail
  obtain ⟨r0, r1, r2⟩ := res_cells (HZ7.out) (.slice a1 m1 n1) (.slice a2 m2 n2) (.slice xa xn xc)
  refine bodyPost_ret (v := .tuple #[.agg #[.slice a1 m1 n1, .slice a2 m2 n2, .slice xa xn xc], .int .i64 2, .int .i64 0]) (by simp [results, Tryz.results80, go_sem, r0, r1, r2]) rfl ?_
  exact ⟨_, _, _, _, _, _, _, _, _, by rw [HAT.out, HER.out], fun _ => ⟨_, _, _, by rw [HQ.out]; exact HS7.out.1.set3 HZ7.out (by omega) _ _ _⟩, line_good HBW.out.2 HS7.out.2 _ _ _⟩
end Go.Proofs.YtakmmpbkojhmhaaGreatDoor

/-
  The document's readLine: lines of statements: copies.
-/
import Derived.Test.YtakmmpbkojhmhaaGreatDoorXEM
namespace Go.Proofs.YtakmmpbkojhmhaaGreatDoor
open Go.RowKit Go.Extern.Stop Go.Stop Go.Extern


set_option maxRecDepth 100000 in
set_option maxHeartbeats 8000000 in
theorem line_copy {B : Nat} {P : ProgD} {v1 v2 v3 : Value} {ps qs : List Value} (l : Bs) (w : World) (hst : Rq w B P v1 v2 v3 ps qs) (hz : l.length ≤ 50000) (hS : SmallP P) (hv : Lib.hasPrefix l kv4 = false) (hp : Lib.hasPrefix l kf3 = false) (hyes : (Lib.cut l eqs).2.2 = true) (x y : Bs) (hx : (Lib.cut l eqs).1 = x) (hy : (Lib.cut l eqs).2.1 = y) (g1 : Lib.hasPrefix x [42] = false) (g2 : (y == kNew) = false) (g3 : Lib.hasPrefix y [38] = false) (g4 : Lib.hasPrefix y [42] = false) (g5 : Lib.hasPrefix y kf3 = false) (g6 : Lib.hasPrefix y kc5 = false) (hN : sentN x y = some [x, y]) (hK : sentK x y = kCopy) :
    Calls Tryz.prog 80 #[.agg #[v1, v2, v3], .string (S l)] w fun e w' => LinePost B w w' P l e := by
  obtain ⟨a1, n1, rfl⟩ := owns_form hst.o1
  obtain ⟨a2, n2, rfl⟩ := owns_form hst.o2
  obtain ⟨a3, n3, rfl⟩ := owns_form hst.o3
  obtain ⟨m1, hm1⟩ : ∃ m, m = P.vars.length := ⟨_, rfl⟩
  obtain ⟨m2, hm2⟩ : ∃ m, m = P.funs.length := ⟨_, rfl⟩
  obtain ⟨m3, hm3⟩ : ∃ m, m = P.stmts.length := ⟨_, rfl⟩
  rw [← hm1, ← hm2, ← hm3] at hst ⊢
  have HMM : Hid (m1 = P.vars.length ∧ m2 = P.funs.length ∧ m3 = P.stmts.length) := ⟨hm1, hm2, hm3⟩
  have HSM : Hid (SmallP P) := hS
  obtain ⟨s, hs⟩ : ∃ s, s = S l := ⟨_, rfl⟩
  have hsl : s.data.toList = l := by rw [hs, S_data]
  have hsz : s.size = l.length := by rw [hs, S_size]
  have hsz2 : s.size ≤ 100000 := by omega
  rw [← hs]
  obtain ⟨W, hW⟩ : ∃ W, W = (w.alloc (.cells #[.slice a1 m1 n1, .slice a2 m2 n2, .slice a3 m3 n3] 43)).alloc zero3 := ⟨_, rfl⟩
  have hBW0 : Below w.heap.size w W := by rw [hW]; exact (below1 w _).alloc (by simp) _
  have HBW : Hid (Below w.heap.size w W ∧ B ≤ w.heap.size) := ⟨hBW0, hst.size⟩
  have HST : Hid (Rp W B w.heap.size P (.slice a1 m1 n1) (.slice a2 m2 n2) (.slice a3 m3 n3) ps qs) := by
    show Rp _ _ _ _ _ _ _ _ _
    rw [hW]; exact hst.rebox.below (below1 _ _)
  have HZB : Hid (W.heap[w.heap.size + 1]? = some zero3) := by
    show _ = _
    rw [hW]
    have := heap_new (w.alloc (.cells #[.slice a1 m1 n1, .slice a2 m2 n2, .slice a3 m3 n3] 43)) zero3
    simpa using this
  obtain ⟨c0, c1, c2⟩ := HST.out.cells
  have f0 := HST.out.frz 0
  have f1 := HST.out.frz 1
  have f2 := HST.out.frz 2
  have z0 : W.cell? ⟨w.heap.size + 1, 0, none⟩ = some (.slice none 0 0) := by rw [Lib.cell_of_heap HZB.out]; rfl
  have z1 : W.cell? ⟨w.heap.size + 1, 1, none⟩ = some (.slice none 0 0) := by rw [Lib.cell_of_heap HZB.out]; rfl
  have z2 : W.cell? ⟨w.heap.size + 1, 2, none⟩ = some (.slice none 0 0) := by rw [Lib.cell_of_heap HZB.out]; rfl
  have y0 := frozen_of_block HZB.out 0
  have y1 := frozen_of_block HZB.out 1
  have y2 := frozen_of_block HZB.out 2
  have K1 : Hid (∀ wx, Calls Tryz.prog 115 #[.string s, .string ⟨#[118, 97, 114, 32]⟩] wx fun e w' => e = .returned (.bool false) ∧ w' = wx) := fun wx => by
    have := refStarts_any l [118, 97, 114, 32] wx
    rw [← hs] at this
    rw [show Lib.hasPrefix l [118, 97, 114, 32] = false from hv] at this
    exact this
  have K2 : Hid (∀ wx, Calls Tryz.prog 115 #[.string s, .string ⟨#[102, 110, 32]⟩] wx fun e w' => e = .returned (.bool false) ∧ w' = wx) := fun wx => by
    have := refStarts_any l [102, 110, 32] wx
    rw [← hs] at this
    rw [show Lib.hasPrefix l [102, 110, 32] = false from hp] at this
    exact this
  have HAT : Hid (lineAt l = 2) := by show _ = _; unfold lineAt; rw [if_neg (by rw [hv]; decide), if_neg (by rw [hp]; decide)]
  have hER : lineEr P l = stmtEr P l := by unfold lineEr; rw [if_neg (by rw [hv]; decide), if_neg (by rw [hp]; decide)]
  have hQ : lineQ P l = stmtQ P l := by unfold lineQ; rw [if_neg (by rw [hv]; decide), if_neg (by rw [hp]; decide)]
  have hxk : ∀ k, k ≤ s.size → s.extract k s.size = S (l.drop k) := fun k hk => by rw [extract_S, hsl, List.take_of_length_le]; simp; omega
  obtain ⟨i, hil, hcut, hat, hbe⟩ := cut_found l hyes
  have K3 : Hid (∀ wx k, k < i → Calls Tryz.prog 115 #[.string (s.extract k s.size), .string ⟨#[32, 61, 32]⟩] wx fun e w' => e = .returned (.bool false) ∧ w' = wx) := fun wx k hk => by
    rw [hxk k (by omega), ← hbe k hk]
    exact refStarts_any (l.drop k) eqs wx
  have K4 : Hid (∀ wx, Calls Tryz.prog 115 #[.string (s.extract i s.size), .string ⟨#[32, 61, 32]⟩] wx fun e w' => e = .returned (.bool true) ∧ w' = wx) := fun wx => by
    rw [hxk i (by omega), ← hat]
    exact refStarts_any (l.drop i) eqs wx
  have hx' : x = l.take i := by rw [← hx, hcut]
  have hy' : y = l.drop (i + 3) := by rw [← hy, hcut]
  obtain ⟨bx, hbx⟩ : ∃ b, b = S x := ⟨_, rfl⟩
  obtain ⟨bY, hbY⟩ : ∃ b, b = S y := ⟨_, rfl⟩
  have HXB : Hid (s.extract 0 i = bx ∧ s.extract (i + 3) s.size = bY) := ⟨by rw [extract_S, hsl, hbx, hx']; simp, by rw [hxk (i + 3) (by omega), hbY, hy']⟩
  have lx : x.length ≤ 50000 := by rw [hx']; simp; omega
  have ly : y.length ≤ 50000 := by rw [hy']; simp; omega
  have hbxz : bx.size = x.length := by rw [hbx, S_size]
  have hbYz : bY.size = y.length := by rw [hbY, S_size]
  have hbx5 : bx.size ≤ 50000 := by omega
  have hbY5 : bY.size ≤ 50000 := by omega
  have hi3 : i + 3 ≤ s.size := by omega
  have hii : (i : Int) + 3 ≤ s.size := by omega
  have hin : ((i : Int) == (s.size : Int)) = false := beq_eq_false_iff_ne.2 (by omega)
  have K5 : Hid (∀ wx, Calls Tryz.prog 115 #[.string bx, .string ⟨#[42]⟩] wx fun e w' => e = .returned (.bool false) ∧ w' = wx) := fun wx => by
    have := refStarts_any x [42] wx
    rw [← hbx, show Lib.hasPrefix x [42] = false from g1] at this
    exact this
  have hyn : (bY.toList == [110, 101, 119]) = false := by rw [hbY, S_toList]; exact g2
  have K6 : Hid (∀ wx, Calls Tryz.prog 115 #[.string bY, .string ⟨#[38]⟩] wx fun e w' => e = .returned (.bool false) ∧ w' = wx) := fun wx => by
    have := refStarts_any y [38] wx
    rw [← hbY, show Lib.hasPrefix y [38] = false from g3] at this
    exact this
  have K7 : Hid (∀ wx, Calls Tryz.prog 115 #[.string bY, .string ⟨#[42]⟩] wx fun e w' => e = .returned (.bool false) ∧ w' = wx) := fun wx => by
    have := refStarts_any y [42] wx
    rw [← hbY, show Lib.hasPrefix y [42] = false from g4] at this
    exact this
  have K8 : Hid (∀ wx, Calls Tryz.prog 115 #[.string bY, .string ⟨#[102, 110, 32]⟩] wx fun e w' => e = .returned (.bool false) ∧ w' = wx) := fun wx => by
    have := refStarts_any y [102, 110, 32] wx
    rw [← hbY, show Lib.hasPrefix y [102, 110, 32] = false from g5] at this
    exact this
  have K9 : Hid (∀ wx, Calls Tryz.prog 115 #[.string bY, .string ⟨#[99, 97, 108, 108, 32]⟩] wx fun e w' => e = .returned (.bool false) ∧ w' = wx) := fun wx => by
    have := refStarts_any y [99, 97, 108, 108, 32] wx
    rw [← hbY, show Lib.hasPrefix y [99, 97, 108, 108, 32] = false from g6] at this
    exact this
  clear g1 g2 g3 g4 g5 g6
  obtain ⟨E, hE⟩ : ∃ E, E = lookE P.vars [x, y] := ⟨_, rfl⟩
  have hEc := lookE_cases P.vars [x, y]
  rw [← hE] at hEc
  have KU : Hid (∀ W2 nv, Below W.heap.size W W2 → W2.heap[W.heap.size]? = some (stB ⟨#[99, 111, 112, 121]⟩ 0 0 (.slice none 0 0)) → IsStrs W2 nv [x, y] → Calls Tryz.prog 117 #[.agg #[.slice a1 m1 n1, .slice a2 m2 n2, .slice a3 m3 n3], nv] W2 fun e w' => ∃ v', e = .returned (.tuple #[v', .int .i64 E]) ∧ (E = 0 → w'.ownsRow (W.heap.size + 1) 3 1 v' 2 (([x, y].map (idx P.vars)).map intV)) ∧ Below W.heap.size W w' ∧ w'.heap[W.heap.size]? = some (stB ⟨#[99, 111, 112, 121]⟩ 0 0 (.slice none 0 0))) := fun W2 nv hb hk hn => by
    rw [hE]
    refine (refLookUp_any P [x, y] nv _ _ _ W2 hS (by simp; try omega) (fun q hq => by
      simp only [List.mem_cons, List.not_mem_nil, or_false] at hq
      rcases hq with rfl | rfl
      · first | omega | (simp only [List.length_drop]; omega)
      · first | omega | (simp only [List.length_drop]; omega)) (HST.out.below hb).isProg hn).mono fun e w' h => ?_
    obtain ⟨v', he, ho, hb'⟩ := h
    exact ⟨v', he, fun q => owns_mono (ho q) (Array.getElem?_eq_some_iff.1 hk).1, hb.trans (hb'.mono hb.size), block_keep hb' hk⟩
  have HER1 : Hid (lineEr P l = E) := by show _ = _; rw [hER, stmt_er hyes hx hy hN (by rw [hK]; rfl), hE]
  have HQ1 : Hid (lineQ P l = { P with stmts := P.stmts ++ [⟨kCopy, ([x, y].map (idx P.vars)).headD 0, ([x, y].map (idx P.vars)).getD 1 0, ([x, y].map (idx P.vars)).drop 2⟩] }) := by show _ = _; rw [hQ, stmt_q hx hy hN hK rfl]
  have HWB : Hid (w.heap.size ≤ W.heap.size) := HBW.out.1.size
  have HS12 : Hid (bx = S x ∧ bY = S y) := ⟨hbx, hbY⟩
  clear hN hK hE
  clear hER hQ hxk hv hp hyes hcut hat hbe hil hx hy hx' hy' lx ly hbxz hbYz hbx hbY
  clear hst hm1 hm2 hm3 hS hs hsl hsz hz hBW0
  go_enter Tryz.func80, Tryz.ntmps80
  go_wp2_with fail
  rw [← hW]
  clear hW
  refine (K1.out _).mono ?_
  rintro e wq ⟨rfl, hwq⟩
  obtain rfl := hwq.symm
  clear hwq K1
  go_wp2_with fail
  refine (K2.out _).mono ?_
  rintro e wq ⟨rfl, hwq⟩
  obtain rfl := hwq.symm
  clear hwq K2
  go_wp2_with fail
  go_loop [18] (fun t => ∃ k : Nat, k ≤ i ∧ t = .int .i64 k) (fun t => (i - intOf t).toNat)
  case atStart => exact ⟨0, Nat.zero_le _, rfl⟩
  case round =>
  obtain ⟨k, hk, rfl⟩ := hrel
  by_cases hlt : k < i
  · have hki : (k : Int) ≤ s.size := by omega
    have hki2 : (k : Int) < s.size := by omega
    go_wp2_with (go_at_call 115; refine (K3.out _ k hlt).mono ?_; rintro e wq ⟨rfl, hwq⟩; obtain rfl := hwq.symm; clear hwq)
    go_round
    case rel => exact ⟨k + 1, by omega, by go_num⟩
    case measure => simp [intOf]; omega
  obtain rfl : k = i := by omega
  have hki : (k : Int) ≤ s.size := by omega
  have hki2 : (k : Int) < s.size := by omega
  clear K3 hlt hk
  go_upto_region 26 with (go_at_call 115; refine (K4.out _).mono ?_; rintro e wq ⟨rfl, hwq⟩; obtain rfl := hwq.symm; clear hwq)
  go_upto_region 30 with fail
  rw [HXB.out.1, HXB.out.2]
  go_wp2_with fail
  refine (K5.out _).mono ?_
  rintro e wq ⟨rfl, hwq⟩
  obtain rfl := hwq.symm
  clear hwq K5
  go_wp2_with fail
  refine (K6.out _).mono ?_
  rintro e wq ⟨rfl, hwq⟩
  obtain rfl := hwq.symm
  clear hwq K6
  go_wp2_with fail
  refine (K7.out _).mono ?_
  rintro e wq ⟨rfl, hwq⟩
  obtain rfl := hwq.symm
  clear hwq K7
  go_wp2_with fail
  refine (K8.out _).mono ?_
  rintro e wq ⟨rfl, hwq⟩
  obtain rfl := hwq.symm
  clear hwq K8
  go_wp2_with fail
  refine (K9.out _).mono ?_
  rintro e wq ⟨rfl, hwq⟩
  obtain rfl := hwq.symm
  clear hwq K9
  go_upto_region 56 with fail
  obtain ⟨W2, hW2⟩ : ∃ W2, W2 = (W.alloc (stB ⟨#[99, 111, 112, 121]⟩ 0 0 (.slice none 0 0))).alloc (.cells #[.string bx, .string bY] 9) := ⟨_, rfl⟩
  have hb2 : Below W.heap.size W W2 := by rw [hW2]; repeat (with_reducible first | exact Below.refl _ _ | refine below_au ?_ _ | refine below_setu ?_ (Nat.le_refl _))
  have HB2 : Hid (Below W.heap.size W W2) := hb2
  have HK2 : Hid (W2.heap[W.heap.size]? = some (stB ⟨#[99, 111, 112, 121]⟩ 0 0 (.slice none 0 0))) := by show _ = _; rw [hW2]; exact block_keep (below1 _ _) (heap_new W _)
  have HN2 : Hid (IsStrs W2 (.slice (some ⟨W.heap.size + 1, 0, none⟩) 2 2) [x, y]) := by show IsStrs _ _ _; rw [hW2, HS12.out.1, HS12.out.2]; exact isStrs_new2 _ x y _ (by simp)
  rw [← hW2]
  clear hW2
  replace c0 := cell_keep hb2 c0
  replace c1 := cell_keep hb2 c1
  replace c2 := cell_keep hb2 c2
  clear hb2
  go_wp2_with fail
  refine (KU.out W2 _ HB2.out HK2.out HN2.out).mono ?_
  clear HB2 HK2 HN2
  rintro e w8 ⟨v', rfl, hown, hb8, hk8⟩
  have HOWN : Hid (E = 0 → w8.ownsRow (W.heap.size + 1) 3 1 v' 2 (([x, y].map (idx P.vars)).map intV)) := hown
  have HB8 : Hid (Below W.heap.size W w8) := hb8
  have HB8w : Hid (Below w.heap.size w w8) := HBW.out.1.trans (hb8.mono HWB.out)
  have HZ8 : Hid (w8.heap[w.heap.size + 1]? = some zero3) := block_keep hb8 HZB.out
  have HK8 : Hid (w8.heap[W.heap.size]? = some (stB ⟨#[99, 111, 112, 121]⟩ 0 0 (.slice none 0 0))) := hk8
  have HST8 : Hid (Rp w8 B w.heap.size P (.slice a1 m1 n1) (.slice a2 m2 n2) (.slice a3 m3 n3) ps qs) := HST.out.below hb8
  clear hown hb8 hk8 c0 c1 c2 z0 z1 z2 y0 y1 y2 f0 f1 f2 KU
  obtain ⟨c0, c1, c2⟩ := HST8.out.cells
  have z0 : w8.cell? ⟨w.heap.size + 1, 0, none⟩ = some (.slice none 0 0) := by rw [Lib.cell_of_heap HZ8.out]; rfl
  have z1 : w8.cell? ⟨w.heap.size + 1, 1, none⟩ = some (.slice none 0 0) := by rw [Lib.cell_of_heap HZ8.out]; rfl
  have z2 : w8.cell? ⟨w.heap.size + 1, 2, none⟩ = some (.slice none 0 0) := by rw [Lib.cell_of_heap HZ8.out]; rfl
  have y0 := frozen_of_block HZ8.out 0
  have y1 := frozen_of_block HZ8.out 1
  have y2 := frozen_of_block HZ8.out 2
  rcases hEc with rfl | rfl | rfl
  case inr.inl =>
    have HER : Hid (lineEr P l = 1) := HER1.out
    have HZW := HZ8
    go_wp2_with fail
    have hres := res_cells (HZW.out) (.slice a1 m1 n1) (.slice a2 m2 n2) (.slice a3 m3 n3)
    obtain ⟨r0, r1, r2⟩ := hres
    refine bodyPost_ret (v := .tuple #[.agg #[.slice a1 m1 n1, .slice a2 m2 n2, .slice a3 m3 n3], .int .i64 2, .int .i64 1]) (by simp [results, Tryz.results80, go_sem, r0, r1, r2]) rfl ?_
    exact ⟨a1, m1, n1, a2, m2, n2, a3, m3, n3, by rw [HAT.out, HER.out], fun q => absurd (HER.out.symm.trans q) (by decide), line_bad HBW.out.2 HB8w.out _ _ _⟩
  case inr.inr =>
    have HER : Hid (lineEr P l = 6) := HER1.out
    have HZW := HZ8
    go_wp2_with fail
    have hres := res_cells (HZW.out) (.slice a1 m1 n1) (.slice a2 m2 n2) (.slice a3 m3 n3)
    obtain ⟨r0, r1, r2⟩ := hres
    refine bodyPost_ret (v := .tuple #[.agg #[.slice a1 m1 n1, .slice a2 m2 n2, .slice a3 m3 n3], .int .i64 2, .int .i64 6]) (by simp [results, Tryz.results80, go_sem, r0, r1, r2]) rfl ?_
    exact ⟨a1, m1, n1, a2, m2, n2, a3, m3, n3, by rw [HAT.out, HER.out], fun q => absurd (HER.out.symm.trans q) (by decide), line_bad HBW.out.2 HB8w.out _ _ _⟩
  case inl =>
  have HER : Hid (lineEr P l = 0) := HER1.out
  have hown := HOWN.out rfl
  have t0 : w8.cell? ⟨W.heap.size, 0, none⟩ = some (.string ⟨#[99, 111, 112, 121]⟩) := by rw [Lib.cell_of_heap HK8.out]; rfl
  have t1 : w8.cell? ⟨W.heap.size, 1, none⟩ = some (.int .i64 0) := by rw [Lib.cell_of_heap HK8.out]; rfl
  have t2 : w8.cell? ⟨W.heap.size, 2, none⟩ = some (.int .i64 0) := by rw [Lib.cell_of_heap HK8.out]; rfl
  have t3 : w8.cell? ⟨W.heap.size, 3, none⟩ = some (.slice none 0 0) := by rw [Lib.cell_of_heap HK8.out]; rfl
  have u1 := frozen_of_block HK8.out 1
  have u2 := frozen_of_block HK8.out 2
  have u3 := frozen_of_block HK8.out 3
  obtain ⟨ix, hix⟩ : ∃ z, z = idx P.vars (x) := ⟨_, rfl⟩
  obtain ⟨iy, hiy⟩ : ∃ z, z = idx P.vars (y) := ⟨_, rfl⟩
  have hzs : [x, y].map (idx P.vars) = [ix, iy] := by rw [hix, hiy]; rfl
  rw [hzs] at hown
  obtain ⟨g, c, rfl, hcn, hIO⟩ := intsOwn_drop hown 2 (by omega) (by omega)
  have hgb : W.heap.size + 1 ≤ g := (hown.lt g rfl).1
  have e0 : w8.cell? ⟨g, 0, none⟩ = some (.int .i64 ix) := by
    obtain ⟨b, o, q1, q2⟩ := isInts_at (isCap_of_owns hown).1 0 (by simp)
    cases q1; exact q2
  have e1 : w8.cell? ⟨g, 1, none⟩ = some (.int .i64 iy) := by
    obtain ⟨b, o, q1, q2⟩ := isInts_at (isCap_of_owns hown).1 1 (by simp)
    cases q1; exact q2
  have hne1 : g ≠ W.heap.size := by omega
  have hci : (2 : Int) ≤ c := by omega
  obtain ⟨aa, haa⟩ : ∃ aa : Option Addr, aa = if c = 2 then some ⟨g, 0, none⟩ else some ⟨g, 2, none⟩ := ⟨_, rfl⟩
  obtain ⟨W9, hW9⟩ : ∃ W9, W9 = ((w8.setCell ⟨W.heap.size, 1, none⟩ (.int .i64 ix)).setCell ⟨W.heap.size, 2, none⟩ (.int .i64 iy)).setCell ⟨W.heap.size, 3, none⟩ (.slice aa 0 (c - 2)) := ⟨_, rfl⟩
  have hB9 : Below W.heap.size W W9 := by rw [hW9]; exact below_setu (below_setu (below_setu HB8.out (Nat.le_refl _)) (Nat.le_refl _)) (Nat.le_refl _)
  have hB9w : Below w.heap.size w W9 := HBW.out.1.trans (hB9.mono HWB.out)
  have hK9 : W9.heap[W.heap.size]? = some (stB ⟨#[99, 111, 112, 121]⟩ ix iy (.slice aa 0 (c - 2))) := by
    rw [hW9]; exact st_set (st_set (st_set HK8.out _) _) _
  obtain ⟨v', w7, hr0', d0, d1, ⟨xa, xn, xc, rfl⟩, hSt, hBe, hkp⟩ := (HST.out.below hB9).addStmt (by have := HSM.out.2.2.1; omega) ⟨kCopy, ix, iy, []⟩ (.slice aa 0 (c - 2)) ⟨_, _, rfl, Nat.zero_le _, Or.inl rfl⟩
  have HR : Hid ((Builtin.append_ #[41, 41] 41 #[.slice a3 m3 n3, .slice (some ⟨W9.heap.size, 0, none⟩) 1 1]).run Tryz.prog (W9.alloc (.cells #[.string ⟨#[99, 111, 112, 121]⟩, .int .i64 ix, .int .i64 iy, .slice aa 0 (c - 2)] 60)) = .ok (.slice xa xn xc) w7) := hr0'
  have HS7 : Hid (Rp (w7.setCell ⟨w.heap.size, 2, none⟩ (.slice xa xn xc)) B w.heap.size { P with stmts := P.stmts ++ [⟨kCopy, ix, iy, []⟩] } (.slice a1 m1 n1) (.slice a2 m2 n2) (.slice xa xn xc) ps (qs ++ [.slice aa 0 (c - 2)]) ∧ Below B w (w7.setCell ⟨w.heap.size, 2, none⟩ (.slice xa xn xc)) ∧ KP w (w7.setCell ⟨w.heap.size, 2, none⟩ (.slice xa xn xc))) := ⟨hSt, (hB9w.mono HBW.out.2).trans hBe, kp_set (kp_kept hB9w hkp (by decide)) (Nat.le_refl _)⟩
  have HZ7 : Hid ((w7.setCell ⟨w.heap.size, 2, none⟩ (.slice xa xn xc)).heap[w.heap.size + 1]? = some zero3) := by
    show _ = _
    rw [other_block (by omega)]; exact hkp _ _ _ _ (block_keep hB9 HZB.out) (by decide)
  have HQ : Hid (lineQ P l = { P with stmts := P.stmts ++ [⟨kCopy, ix, iy, []⟩] }) := by show _ = _; rw [HQ1.out, hzs]; rfl
  obtain ⟨j0, j1, j2⟩ := (HST.out.below hB9).cells
  have s0 : W9.cell? ⟨W.heap.size, 0, none⟩ = some (.string ⟨#[99, 111, 112, 121]⟩) := by rw [Lib.cell_of_heap hK9]; rfl
  have s1 : W9.cell? ⟨W.heap.size, 1, none⟩ = some (.int .i64 ix) := by rw [Lib.cell_of_heap hK9]; rfl
  have s2 : W9.cell? ⟨W.heap.size, 2, none⟩ = some (.int .i64 iy) := by rw [Lib.cell_of_heap hK9]; rfl
  have s3 : W9.cell? ⟨W.heap.size, 3, none⟩ = some (.slice aa 0 (c - 2)) := by rw [Lib.cell_of_heap hK9]; rfl
  clear hr0' hSt hBe hkp hIO hzs hix hiy hown HOWN hB9 hB9w hK9 HQ1 HER1 hcn hgb c0 c1 c2 z0 z1 z2 y0 y1 y2
  go_upto_region 72 with fail
  rw [← haa, ← hW9]
  clear hW9 haa
  go_upto_region 73 with (at_builtin; refine Lib.wpList_append_run _ rfl _ _ _ _ rfl _ _ rfl rfl _ _ HR.out ?_)
  go_upto_region 74 with fail
  obtain ⟨W7, hW7⟩ : ∃ W7, W7 = w7.setCell ⟨w.heap.size, 2, none⟩ (.slice xa xn xc) := ⟨_, rfl⟩
  rw [← hW7] at HS7 HZ7 ⊢
  clear hW7
  obtain ⟨k0, k1, k2⟩ := HS7.out.1.cells
  have z0 : W7.cell? ⟨w.heap.size + 1, 0, none⟩ = some (.slice none 0 0) := by rw [Lib.cell_of_heap HZ7.out]; rfl
  have z1 : W7.cell? ⟨w.heap.size + 1, 1, none⟩ = some (.slice none 0 0) := by rw [Lib.cell_of_heap HZ7.out]; rfl
  have z2 : W7.cell? ⟨w.heap.size + 1, 2, none⟩ = some (.slice none 0 0) := by rw [Lib.cell_of_heap HZ7.out]; rfl
  have y0 := frozen_of_block HZ7.out 0
  have y1 := frozen_of_block HZ7.out 1
  have y2 := frozen_of_block HZ7.out 2
  go_wp2_with fail
  obtain ⟨r0, r1, r2⟩ := res_cells (HZ7.out) (.slice a1 m1 n1) (.slice a2 m2 n2) (.slice xa xn xc)
  refine bodyPost_ret (v := .tuple #[.agg #[.slice a1 m1 n1, .slice a2 m2 n2, .slice xa xn xc], .int .i64 2, .int .i64 0]) (by simp [results, Tryz.results80, go_sem, r0, r1, r2]) rfl ?_
  exact ⟨_, _, _, _, _, _, _, _, _, by rw [HAT.out, HER.out], fun _ => ⟨_, _, _, by rw [HQ.out]; exact HS7.out.1.set3 HZ7.out (by omega) _ _ _⟩, line_good HBW.out.2 HS7.out.2 _ _ _⟩
end Go.Proofs.YtakmmpbkojhmhaaGreatDoor

/-
  The document's readLine: lines of statements: addresses.
-/
namespace Go.Proofs.YtakmmpbkojhmhaaGreatDoor
open Go.RowKit Go.Extern.Stop Go.Stop Go.Extern


set_option maxRecDepth 100000 in
set_option maxHeartbeats 8000000 in
theorem line_addr {B : Nat} {P : ProgD} {v1 v2 v3 : Value} {ps qs : List Value} (l : Bs) (w : World) (hst : Rq w B P v1 v2 v3 ps qs) (hz : l.length ≤ 50000) (hS : SmallP P) (hv : Lib.hasPrefix l kv4 = false) (hp : Lib.hasPrefix l kf3 = false) (hyes : (Lib.cut l eqs).2.2 = true) (x y : Bs) (hx : (Lib.cut l eqs).1 = x) (hy : (Lib.cut l eqs).2.1 = y) (g1 : Lib.hasPrefix x [42] = false) (g2 : (y == kNew) = false) (g3 : Lib.hasPrefix y [38] = true) (hN : sentN x y = some [x, y.drop 1]) (hK : sentK x y = kAddr) :
    Calls Tryz.prog 80 #[.agg #[v1, v2, v3], .string (S l)] w fun e w' => LinePost B w w' P l e := by
  obtain ⟨a1, n1, rfl⟩ := owns_form hst.o1
  obtain ⟨a2, n2, rfl⟩ := owns_form hst.o2
  obtain ⟨a3, n3, rfl⟩ := owns_form hst.o3
  obtain ⟨m1, hm1⟩ : ∃ m, m = P.vars.length := ⟨_, rfl⟩
  obtain ⟨m2, hm2⟩ : ∃ m, m = P.funs.length := ⟨_, rfl⟩
  obtain ⟨m3, hm3⟩ : ∃ m, m = P.stmts.length := ⟨_, rfl⟩
  rw [← hm1, ← hm2, ← hm3] at hst ⊢
  have HMM : Hid (m1 = P.vars.length ∧ m2 = P.funs.length ∧ m3 = P.stmts.length) := ⟨hm1, hm2, hm3⟩
  have HSM : Hid (SmallP P) := hS
  obtain ⟨s, hs⟩ : ∃ s, s = S l := ⟨_, rfl⟩
  have hsl : s.data.toList = l := by rw [hs, S_data]
  have hsz : s.size = l.length := by rw [hs, S_size]
  have hsz2 : s.size ≤ 100000 := by omega
  rw [← hs]
  obtain ⟨W, hW⟩ : ∃ W, W = (w.alloc (.cells #[.slice a1 m1 n1, .slice a2 m2 n2, .slice a3 m3 n3] 43)).alloc zero3 := ⟨_, rfl⟩
  have hBW0 : Below w.heap.size w W := by rw [hW]; exact (below1 w _).alloc (by simp) _
  have HBW : Hid (Below w.heap.size w W ∧ B ≤ w.heap.size) := ⟨hBW0, hst.size⟩
  have HST : Hid (Rp W B w.heap.size P (.slice a1 m1 n1) (.slice a2 m2 n2) (.slice a3 m3 n3) ps qs) := by
    show Rp _ _ _ _ _ _ _ _ _
    rw [hW]; exact hst.rebox.below (below1 _ _)
  have HZB : Hid (W.heap[w.heap.size + 1]? = some zero3) := by
    show _ = _
    rw [hW]
    have := heap_new (w.alloc (.cells #[.slice a1 m1 n1, .slice a2 m2 n2, .slice a3 m3 n3] 43)) zero3
    simpa using this
  obtain ⟨c0, c1, c2⟩ := HST.out.cells
  have f0 := HST.out.frz 0
  have f1 := HST.out.frz 1
  have f2 := HST.out.frz 2
  have z0 : W.cell? ⟨w.heap.size + 1, 0, none⟩ = some (.slice none 0 0) := by rw [Lib.cell_of_heap HZB.out]; rfl
  have z1 : W.cell? ⟨w.heap.size + 1, 1, none⟩ = some (.slice none 0 0) := by rw [Lib.cell_of_heap HZB.out]; rfl
  have z2 : W.cell? ⟨w.heap.size + 1, 2, none⟩ = some (.slice none 0 0) := by rw [Lib.cell_of_heap HZB.out]; rfl
  have y0 := frozen_of_block HZB.out 0
  have y1 := frozen_of_block HZB.out 1
  have y2 := frozen_of_block HZB.out 2
  have K1 : Hid (∀ wx, Calls Tryz.prog 115 #[.string s, .string ⟨#[118, 97, 114, 32]⟩] wx fun e w' => e = .returned (.bool false) ∧ w' = wx) := fun wx => by
    have := refStarts_any l [118, 97, 114, 32] wx
    rw [← hs] at this
    rw [show Lib.hasPrefix l [118, 97, 114, 32] = false from hv] at this
    exact this
  have K2 : Hid (∀ wx, Calls Tryz.prog 115 #[.string s, .string ⟨#[102, 110, 32]⟩] wx fun e w' => e = .returned (.bool false) ∧ w' = wx) := fun wx => by
    have := refStarts_any l [102, 110, 32] wx
    rw [← hs] at this
    rw [show Lib.hasPrefix l [102, 110, 32] = false from hp] at this
    exact this
  have HAT : Hid (lineAt l = 2) := by show _ = _; unfold lineAt; rw [if_neg (by rw [hv]; decide), if_neg (by rw [hp]; decide)]
  have hER : lineEr P l = stmtEr P l := by unfold lineEr; rw [if_neg (by rw [hv]; decide), if_neg (by rw [hp]; decide)]
  have hQ : lineQ P l = stmtQ P l := by unfold lineQ; rw [if_neg (by rw [hv]; decide), if_neg (by rw [hp]; decide)]
  have hxk : ∀ k, k ≤ s.size → s.extract k s.size = S (l.drop k) := fun k hk => by rw [extract_S, hsl, List.take_of_length_le]; simp; omega
  obtain ⟨i, hil, hcut, hat, hbe⟩ := cut_found l hyes
  have K3 : Hid (∀ wx k, k < i → Calls Tryz.prog 115 #[.string (s.extract k s.size), .string ⟨#[32, 61, 32]⟩] wx fun e w' => e = .returned (.bool false) ∧ w' = wx) := fun wx k hk => by
    rw [hxk k (by omega), ← hbe k hk]
    exact refStarts_any (l.drop k) eqs wx
  have K4 : Hid (∀ wx, Calls Tryz.prog 115 #[.string (s.extract i s.size), .string ⟨#[32, 61, 32]⟩] wx fun e w' => e = .returned (.bool true) ∧ w' = wx) := fun wx => by
    rw [hxk i (by omega), ← hat]
    exact refStarts_any (l.drop i) eqs wx
  have hx' : x = l.take i := by rw [← hx, hcut]
  have hy' : y = l.drop (i + 3) := by rw [← hy, hcut]
  obtain ⟨bx, hbx⟩ : ∃ b, b = S x := ⟨_, rfl⟩
  obtain ⟨bY, hbY⟩ : ∃ b, b = S y := ⟨_, rfl⟩
  have HXB : Hid (s.extract 0 i = bx ∧ s.extract (i + 3) s.size = bY) := ⟨by rw [extract_S, hsl, hbx, hx']; simp, by rw [hxk (i + 3) (by omega), hbY, hy']⟩
  have lx : x.length ≤ 50000 := by rw [hx']; simp; omega
  have ly : y.length ≤ 50000 := by rw [hy']; simp; omega
  have hbxz : bx.size = x.length := by rw [hbx, S_size]
  have hbYz : bY.size = y.length := by rw [hbY, S_size]
  have hbx5 : bx.size ≤ 50000 := by omega
  have hbY5 : bY.size ≤ 50000 := by omega
  have hi3 : i + 3 ≤ s.size := by omega
  have hii : (i : Int) + 3 ≤ s.size := by omega
  have hin : ((i : Int) == (s.size : Int)) = false := beq_eq_false_iff_ne.2 (by omega)
  have K5 : Hid (∀ wx, Calls Tryz.prog 115 #[.string bx, .string ⟨#[42]⟩] wx fun e w' => e = .returned (.bool false) ∧ w' = wx) := fun wx => by
    have := refStarts_any x [42] wx
    rw [← hbx, show Lib.hasPrefix x [42] = false from g1] at this
    exact this
  have hyn : (bY.toList == [110, 101, 119]) = false := by rw [hbY, S_toList]; exact g2
  have K6 : Hid (∀ wx, Calls Tryz.prog 115 #[.string bY, .string ⟨#[38]⟩] wx fun e w' => e = .returned (.bool true) ∧ w' = wx) := fun wx => by
    have := refStarts_any y [38] wx
    rw [← hbY, show Lib.hasPrefix y [38] = true from g3] at this
    exact this
  have hp1 : 1 ≤ y.length := pre_size g3
  have hp1i : (1 : Int) ≤ bY.size := by omega
  have HE1 : Hid (bY.extract 1 bY.size = S (y.drop 1)) := by
    show _ = _
    rw [extract_S, hbY, S_data, List.take_of_length_le]; rw [S_size]; simp
  clear g1 g2 g3 hp1
  obtain ⟨E, hE⟩ : ∃ E, E = lookE P.vars [x, y.drop 1] := ⟨_, rfl⟩
  have hEc := lookE_cases P.vars [x, y.drop 1]
  rw [← hE] at hEc
  have KU : Hid (∀ W2 nv, Below W.heap.size W W2 → W2.heap[W.heap.size]? = some (stB ⟨#[97, 100, 100, 114]⟩ 0 0 (.slice none 0 0)) → IsStrs W2 nv [x, y.drop 1] → Calls Tryz.prog 117 #[.agg #[.slice a1 m1 n1, .slice a2 m2 n2, .slice a3 m3 n3], nv] W2 fun e w' => ∃ v', e = .returned (.tuple #[v', .int .i64 E]) ∧ (E = 0 → w'.ownsRow (W.heap.size + 1) 3 1 v' 2 (([x, y.drop 1].map (idx P.vars)).map intV)) ∧ Below W.heap.size W w' ∧ w'.heap[W.heap.size]? = some (stB ⟨#[97, 100, 100, 114]⟩ 0 0 (.slice none 0 0))) := fun W2 nv hb hk hn => by
    rw [hE]
    refine (refLookUp_any P [x, y.drop 1] nv _ _ _ W2 hS (by simp; try omega) (fun q hq => by
      simp only [List.mem_cons, List.not_mem_nil, or_false] at hq
      rcases hq with rfl | rfl
      · first | omega | (simp only [List.length_drop]; omega)
      · first | omega | (simp only [List.length_drop]; omega)) (HST.out.below hb).isProg hn).mono fun e w' h => ?_
    obtain ⟨v', he, ho, hb'⟩ := h
    exact ⟨v', he, fun q => owns_mono (ho q) (Array.getElem?_eq_some_iff.1 hk).1, hb.trans (hb'.mono hb.size), block_keep hb' hk⟩
  have HER1 : Hid (lineEr P l = E) := by show _ = _; rw [hER, stmt_er hyes hx hy hN (by rw [hK]; rfl), hE]
  have HQ1 : Hid (lineQ P l = { P with stmts := P.stmts ++ [⟨kAddr, ([x, y.drop 1].map (idx P.vars)).headD 0, ([x, y.drop 1].map (idx P.vars)).getD 1 0, ([x, y.drop 1].map (idx P.vars)).drop 2⟩] }) := by show _ = _; rw [hQ, stmt_q hx hy hN hK rfl]
  have HWB : Hid (w.heap.size ≤ W.heap.size) := HBW.out.1.size
  have HS12 : Hid (bx = S x ∧ bY = S y) := ⟨hbx, hbY⟩
  clear hN hK hE
  clear hER hQ hxk hv hp hyes hcut hat hbe hil hx hy hx' hy' lx ly hbxz hbYz hbx hbY
  clear hst hm1 hm2 hm3 hS hs hsl hsz hz hBW0
  go_enter Tryz.func80, Tryz.ntmps80
  go_wp2_with fail
  rw [← hW]
  clear hW
  refine (K1.out _).mono ?_
  rintro e wq ⟨rfl, hwq⟩
  obtain rfl := hwq.symm
  clear hwq K1
  go_wp2_with fail
  refine (K2.out _).mono ?_
  rintro e wq ⟨rfl, hwq⟩
  obtain rfl := hwq.symm
  clear hwq K2
  go_wp2_with fail
  go_loop [18] (fun t => ∃ k : Nat, k ≤ i ∧ t = .int .i64 k) (fun t => (i - intOf t).toNat)
  case atStart => exact ⟨0, Nat.zero_le _, rfl⟩
  case round =>
  obtain ⟨k, hk, rfl⟩ := hrel
  by_cases hlt : k < i
  · have hki : (k : Int) ≤ s.size := by omega
    have hki2 : (k : Int) < s.size := by omega
    go_wp2_with (go_at_call 115; refine (K3.out _ k hlt).mono ?_; rintro e wq ⟨rfl, hwq⟩; obtain rfl := hwq.symm; clear hwq)
    go_round
    case rel => exact ⟨k + 1, by omega, by go_num⟩
    case measure => simp [intOf]; omega
  obtain rfl : k = i := by omega
  have hki : (k : Int) ≤ s.size := by omega
  have hki2 : (k : Int) < s.size := by omega
  clear K3 hlt hk
  go_upto_region 26 with (go_at_call 115; refine (K4.out _).mono ?_; rintro e wq ⟨rfl, hwq⟩; obtain rfl := hwq.symm; clear hwq)
  go_upto_region 30 with fail
  rw [HXB.out.1, HXB.out.2]
  go_wp2_with fail
  refine (K5.out _).mono ?_
  rintro e wq ⟨rfl, hwq⟩
  obtain rfl := hwq.symm
  clear hwq K5
  go_wp2_with fail
  refine (K6.out _).mono ?_
  rintro e wq ⟨rfl, hwq⟩
  obtain rfl := hwq.symm
  clear hwq K6
  go_upto_region 56 with fail
  obtain ⟨W2, hW2⟩ : ∃ W2, W2 = ((W.alloc (stB ⟨#[97, 100, 100, 114]⟩ 0 0 (.slice none 0 0))).alloc (.cells #[.string bx, .string bY] 9)).alloc (.cells #[.string bx, .string (bY.extract 1 bY.size)] 9) := ⟨_, rfl⟩
  have hb2 : Below W.heap.size W W2 := by rw [hW2]; repeat (with_reducible first | exact Below.refl _ _ | refine below_au ?_ _ | refine below_setu ?_ (Nat.le_refl _))
  have HB2 : Hid (Below W.heap.size W W2) := hb2
  have HK2 : Hid (W2.heap[W.heap.size]? = some (stB ⟨#[97, 100, 100, 114]⟩ 0 0 (.slice none 0 0))) := by show _ = _; rw [hW2]; exact block_keep (below1 _ _) (block_keep (below1 _ _) (heap_new W _))
  have HN2 : Hid (IsStrs W2 (.slice (some ⟨W.heap.size + 1 + 1, 0, none⟩) 2 2) [x, y.drop 1]) := by show IsStrs _ _ _; rw [hW2, HE1.out, HS12.out.1]; exact isStrs_new2 _ x (y.drop 1) _ (by simp)
  rw [← hW2]
  clear hW2
  replace c0 := cell_keep hb2 c0
  replace c1 := cell_keep hb2 c1
  replace c2 := cell_keep hb2 c2
  clear hb2
  go_wp2_with fail
  refine (KU.out W2 _ HB2.out HK2.out HN2.out).mono ?_
  clear HB2 HK2 HN2
  rintro e w8 ⟨v', rfl, hown, hb8, hk8⟩
  have HOWN : Hid (E = 0 → w8.ownsRow (W.heap.size + 1) 3 1 v' 2 (([x, y.drop 1].map (idx P.vars)).map intV)) := hown
  have HB8 : Hid (Below W.heap.size W w8) := hb8
  have HB8w : Hid (Below w.heap.size w w8) := HBW.out.1.trans (hb8.mono HWB.out)
  have HZ8 : Hid (w8.heap[w.heap.size + 1]? = some zero3) := block_keep hb8 HZB.out
  have HK8 : Hid (w8.heap[W.heap.size]? = some (stB ⟨#[97, 100, 100, 114]⟩ 0 0 (.slice none 0 0))) := hk8
  have HST8 : Hid (Rp w8 B w.heap.size P (.slice a1 m1 n1) (.slice a2 m2 n2) (.slice a3 m3 n3) ps qs) := HST.out.below hb8
  clear hown hb8 hk8 c0 c1 c2 z0 z1 z2 y0 y1 y2 f0 f1 f2 KU
  obtain ⟨c0, c1, c2⟩ := HST8.out.cells
  have z0 : w8.cell? ⟨w.heap.size + 1, 0, none⟩ = some (.slice none 0 0) := by rw [Lib.cell_of_heap HZ8.out]; rfl
  have z1 : w8.cell? ⟨w.heap.size + 1, 1, none⟩ = some (.slice none 0 0) := by rw [Lib.cell_of_heap HZ8.out]; rfl
  have z2 : w8.cell? ⟨w.heap.size + 1, 2, none⟩ = some (.slice none 0 0) := by rw [Lib.cell_of_heap HZ8.out]; rfl
  have y0 := frozen_of_block HZ8.out 0
  have y1 := frozen_of_block HZ8.out 1
  have y2 := frozen_of_block HZ8.out 2
  rcases hEc with rfl | rfl | rfl
  case inr.inl =>
    have HER : Hid (lineEr P l = 1) := HER1.out
    have HZW := HZ8
    go_wp2_with fail
    have hres := res_cells (HZW.out) (.slice a1 m1 n1) (.slice a2 m2 n2) (.slice a3 m3 n3)
    obtain ⟨r0, r1, r2⟩ := hres
    refine bodyPost_ret (v := .tuple #[.agg #[.slice a1 m1 n1, .slice a2 m2 n2, .slice a3 m3 n3], .int .i64 2, .int .i64 1]) (by simp [results, Tryz.results80, go_sem, r0, r1, r2]) rfl ?_
    exact ⟨a1, m1, n1, a2, m2, n2, a3, m3, n3, by rw [HAT.out, HER.out], fun q => absurd (HER.out.symm.trans q) (by decide), line_bad HBW.out.2 HB8w.out _ _ _⟩
  case inr.inr =>
    have HER : Hid (lineEr P l = 6) := HER1.out
    have HZW := HZ8
    go_wp2_with fail
    have hres := res_cells (HZW.out) (.slice a1 m1 n1) (.slice a2 m2 n2) (.slice a3 m3 n3)
    obtain ⟨r0, r1, r2⟩ := hres
    refine bodyPost_ret (v := .tuple #[.agg #[.slice a1 m1 n1, .slice a2 m2 n2, .slice a3 m3 n3], .int .i64 2, .int .i64 6]) (by simp [results, Tryz.results80, go_sem, r0, r1, r2]) rfl ?_
    exact ⟨a1, m1, n1, a2, m2, n2, a3, m3, n3, by rw [HAT.out, HER.out], fun q => absurd (HER.out.symm.trans q) (by decide), line_bad HBW.out.2 HB8w.out _ _ _⟩
  case inl =>
  have HER : Hid (lineEr P l = 0) := HER1.out
  have hown := HOWN.out rfl
  have t0 : w8.cell? ⟨W.heap.size, 0, none⟩ = some (.string ⟨#[97, 100, 100, 114]⟩) := by rw [Lib.cell_of_heap HK8.out]; rfl
  have t1 : w8.cell? ⟨W.heap.size, 1, none⟩ = some (.int .i64 0) := by rw [Lib.cell_of_heap HK8.out]; rfl
  have t2 : w8.cell? ⟨W.heap.size, 2, none⟩ = some (.int .i64 0) := by rw [Lib.cell_of_heap HK8.out]; rfl
  have t3 : w8.cell? ⟨W.heap.size, 3, none⟩ = some (.slice none 0 0) := by rw [Lib.cell_of_heap HK8.out]; rfl
  have u1 := frozen_of_block HK8.out 1
  have u2 := frozen_of_block HK8.out 2
  have u3 := frozen_of_block HK8.out 3
  obtain ⟨ix, hix⟩ : ∃ z, z = idx P.vars (x) := ⟨_, rfl⟩
  obtain ⟨iy, hiy⟩ : ∃ z, z = idx P.vars (y.drop 1) := ⟨_, rfl⟩
  have hzs : [x, y.drop 1].map (idx P.vars) = [ix, iy] := by rw [hix, hiy]; rfl
  rw [hzs] at hown
  obtain ⟨g, c, rfl, hcn, hIO⟩ := intsOwn_drop hown 2 (by omega) (by omega)
  have hgb : W.heap.size + 1 ≤ g := (hown.lt g rfl).1
  have e0 : w8.cell? ⟨g, 0, none⟩ = some (.int .i64 ix) := by
    obtain ⟨b, o, q1, q2⟩ := isInts_at (isCap_of_owns hown).1 0 (by simp)
    cases q1; exact q2
  have e1 : w8.cell? ⟨g, 1, none⟩ = some (.int .i64 iy) := by
    obtain ⟨b, o, q1, q2⟩ := isInts_at (isCap_of_owns hown).1 1 (by simp)
    cases q1; exact q2
  have hne1 : g ≠ W.heap.size := by omega
  have hci : (2 : Int) ≤ c := by omega
  obtain ⟨aa, haa⟩ : ∃ aa : Option Addr, aa = if c = 2 then some ⟨g, 0, none⟩ else some ⟨g, 2, none⟩ := ⟨_, rfl⟩
  obtain ⟨W9, hW9⟩ : ∃ W9, W9 = ((w8.setCell ⟨W.heap.size, 1, none⟩ (.int .i64 ix)).setCell ⟨W.heap.size, 2, none⟩ (.int .i64 iy)).setCell ⟨W.heap.size, 3, none⟩ (.slice aa 0 (c - 2)) := ⟨_, rfl⟩
  have hB9 : Below W.heap.size W W9 := by rw [hW9]; exact below_setu (below_setu (below_setu HB8.out (Nat.le_refl _)) (Nat.le_refl _)) (Nat.le_refl _)
  have hB9w : Below w.heap.size w W9 := HBW.out.1.trans (hB9.mono HWB.out)
  have hK9 : W9.heap[W.heap.size]? = some (stB ⟨#[97, 100, 100, 114]⟩ ix iy (.slice aa 0 (c - 2))) := by
    rw [hW9]; exact st_set (st_set (st_set HK8.out _) _) _
  obtain ⟨v', w7, hr0', d0, d1, ⟨xa, xn, xc, rfl⟩, hSt, hBe, hkp⟩ := (HST.out.below hB9).addStmt (by have := HSM.out.2.2.1; omega) ⟨kAddr, ix, iy, []⟩ (.slice aa 0 (c - 2)) ⟨_, _, rfl, Nat.zero_le _, Or.inl rfl⟩
  have HR : Hid ((Builtin.append_ #[41, 41] 41 #[.slice a3 m3 n3, .slice (some ⟨W9.heap.size, 0, none⟩) 1 1]).run Tryz.prog (W9.alloc (.cells #[.string ⟨#[97, 100, 100, 114]⟩, .int .i64 ix, .int .i64 iy, .slice aa 0 (c - 2)] 60)) = .ok (.slice xa xn xc) w7) := hr0'
  have HS7 : Hid (Rp (w7.setCell ⟨w.heap.size, 2, none⟩ (.slice xa xn xc)) B w.heap.size { P with stmts := P.stmts ++ [⟨kAddr, ix, iy, []⟩] } (.slice a1 m1 n1) (.slice a2 m2 n2) (.slice xa xn xc) ps (qs ++ [.slice aa 0 (c - 2)]) ∧ Below B w (w7.setCell ⟨w.heap.size, 2, none⟩ (.slice xa xn xc)) ∧ KP w (w7.setCell ⟨w.heap.size, 2, none⟩ (.slice xa xn xc))) := ⟨hSt, (hB9w.mono HBW.out.2).trans hBe, kp_set (kp_kept hB9w hkp (by decide)) (Nat.le_refl _)⟩
  have HZ7 : Hid ((w7.setCell ⟨w.heap.size, 2, none⟩ (.slice xa xn xc)).heap[w.heap.size + 1]? = some zero3) := by
    show _ = _
    rw [other_block (by omega)]; exact hkp _ _ _ _ (block_keep hB9 HZB.out) (by decide)
  have HQ : Hid (lineQ P l = { P with stmts := P.stmts ++ [⟨kAddr, ix, iy, []⟩] }) := by show _ = _; rw [HQ1.out, hzs]; rfl
  obtain ⟨j0, j1, j2⟩ := (HST.out.below hB9).cells
  have s0 : W9.cell? ⟨W.heap.size, 0, none⟩ = some (.string ⟨#[97, 100, 100, 114]⟩) := by rw [Lib.cell_of_heap hK9]; rfl
  have s1 : W9.cell? ⟨W.heap.size, 1, none⟩ = some (.int .i64 ix) := by rw [Lib.cell_of_heap hK9]; rfl
  have s2 : W9.cell? ⟨W.heap.size, 2, none⟩ = some (.int .i64 iy) := by rw [Lib.cell_of_heap hK9]; rfl
  have s3 : W9.cell? ⟨W.heap.size, 3, none⟩ = some (.slice aa 0 (c - 2)) := by rw [Lib.cell_of_heap hK9]; rfl
  clear hr0' hSt hBe hkp hIO hzs hix hiy hown HOWN hB9 hB9w hK9 HQ1 HER1 hcn hgb c0 c1 c2 z0 z1 z2 y0 y1 y2
  go_upto_region 72 with fail
  rw [← haa, ← hW9]
  clear hW9 haa
  go_upto_region 73 with (at_builtin; refine Lib.wpList_append_run _ rfl _ _ _ _ rfl _ _ rfl rfl _ _ HR.out ?_)
  go_upto_region 74 with fail
  obtain ⟨W7, hW7⟩ : ∃ W7, W7 = w7.setCell ⟨w.heap.size, 2, none⟩ (.slice xa xn xc) := ⟨_, rfl⟩
  rw [← hW7] at HS7 HZ7 ⊢
  clear hW7
  obtain ⟨k0, k1, k2⟩ := HS7.out.1.cells
  have z0 : W7.cell? ⟨w.heap.size + 1, 0, none⟩ = some (.slice none 0 0) := by rw [Lib.cell_of_heap HZ7.out]; rfl
  have z1 : W7.cell? ⟨w.heap.size + 1, 1, none⟩ = some (.slice none 0 0) := by rw [Lib.cell_of_heap HZ7.out]; rfl
  have z2 : W7.cell? ⟨w.heap.size + 1, 2, none⟩ = some (.slice none 0 0) := by rw [Lib.cell_of_heap HZ7.out]; rfl
  have y0 := frozen_of_block HZ7.out 0
  have y1 := frozen_of_block HZ7.out 1
  have y2 := frozen_of_block HZ7.out 2
  go_wp2_with fail
  obtain ⟨r0, r1, r2⟩ := res_cells (HZ7.out) (.slice a1 m1 n1) (.slice a2 m2 n2) (.slice xa xn xc)
  refine bodyPost_ret (v := .tuple #[.agg #[.slice a1 m1 n1, .slice a2 m2 n2, .slice xa xn xc], .int .i64 2, .int .i64 0]) (by simp [results, Tryz.results80, go_sem, r0, r1, r2]) rfl ?_
  exact ⟨_, _, _, _, _, _, _, _, _, by rw [HAT.out, HER.out], fun _ => ⟨_, _, _, by rw [HQ.out]; exact HS7.out.1.set3 HZ7.out (by omega) _ _ _⟩, line_good HBW.out.2 HS7.out.2 _ _ _⟩
end Go.Proofs.YtakmmpbkojhmhaaGreatDoor

/-
  The document's readLine: lines of statements: loads.
-/
namespace Go.Proofs.YtakmmpbkojhmhaaGreatDoor
open Go.RowKit Go.Extern.Stop Go.Stop Go.Extern


set_option maxRecDepth 100000 in
set_option maxHeartbeats 8000000 in
theorem line_load {B : Nat} {P : ProgD} {v1 v2 v3 : Value} {ps qs : List Value} (l : Bs) (w : World) (hst : Rq w B P v1 v2 v3 ps qs) (hz : l.length ≤ 50000) (hS : SmallP P) (hv : Lib.hasPrefix l kv4 = false) (hp : Lib.hasPrefix l kf3 = false) (hyes : (Lib.cut l eqs).2.2 = true) (x y : Bs) (hx : (Lib.cut l eqs).1 = x) (hy : (Lib.cut l eqs).2.1 = y) (g1 : Lib.hasPrefix x [42] = false) (g2 : (y == kNew) = false) (g3 : Lib.hasPrefix y [38] = false) (g4 : Lib.hasPrefix y [42] = true) (hN : sentN x y = some [x, y.drop 1]) (hK : sentK x y = kLoad) :
    Calls Tryz.prog 80 #[.agg #[v1, v2, v3], .string (S l)] w fun e w' => LinePost B w w' P l e := by
  obtain ⟨a1, n1, rfl⟩ := owns_form hst.o1
  obtain ⟨a2, n2, rfl⟩ := owns_form hst.o2
  obtain ⟨a3, n3, rfl⟩ := owns_form hst.o3
  obtain ⟨m1, hm1⟩ : ∃ m, m = P.vars.length := ⟨_, rfl⟩
  obtain ⟨m2, hm2⟩ : ∃ m, m = P.funs.length := ⟨_, rfl⟩
  obtain ⟨m3, hm3⟩ : ∃ m, m = P.stmts.length := ⟨_, rfl⟩
  rw [← hm1, ← hm2, ← hm3] at hst ⊢
  have HMM : Hid (m1 = P.vars.length ∧ m2 = P.funs.length ∧ m3 = P.stmts.length) := ⟨hm1, hm2, hm3⟩
  have HSM : Hid (SmallP P) := hS
  obtain ⟨s, hs⟩ : ∃ s, s = S l := ⟨_, rfl⟩
  have hsl : s.data.toList = l := by rw [hs, S_data]
  have hsz : s.size = l.length := by rw [hs, S_size]
  have hsz2 : s.size ≤ 100000 := by omega
  rw [← hs]
  obtain ⟨W, hW⟩ : ∃ W, W = (w.alloc (.cells #[.slice a1 m1 n1, .slice a2 m2 n2, .slice a3 m3 n3] 43)).alloc zero3 := ⟨_, rfl⟩
  have hBW0 : Below w.heap.size w W := by rw [hW]; exact (below1 w _).alloc (by simp) _
  have HBW : Hid (Below w.heap.size w W ∧ B ≤ w.heap.size) := ⟨hBW0, hst.size⟩
  have HST : Hid (Rp W B w.heap.size P (.slice a1 m1 n1) (.slice a2 m2 n2) (.slice a3 m3 n3) ps qs) := by
    show Rp _ _ _ _ _ _ _ _ _
    rw [hW]; exact hst.rebox.below (below1 _ _)
  have HZB : Hid (W.heap[w.heap.size + 1]? = some zero3) := by
    show _ = _
    rw [hW]
    have := heap_new (w.alloc (.cells #[.slice a1 m1 n1, .slice a2 m2 n2, .slice a3 m3 n3] 43)) zero3
    simpa using this
  obtain ⟨c0, c1, c2⟩ := HST.out.cells
  have f0 := HST.out.frz 0
  have f1 := HST.out.frz 1
  have f2 := HST.out.frz 2
  have z0 : W.cell? ⟨w.heap.size + 1, 0, none⟩ = some (.slice none 0 0) := by rw [Lib.cell_of_heap HZB.out]; rfl
  have z1 : W.cell? ⟨w.heap.size + 1, 1, none⟩ = some (.slice none 0 0) := by rw [Lib.cell_of_heap HZB.out]; rfl
  have z2 : W.cell? ⟨w.heap.size + 1, 2, none⟩ = some (.slice none 0 0) := by rw [Lib.cell_of_heap HZB.out]; rfl
  have y0 := frozen_of_block HZB.out 0
  have y1 := frozen_of_block HZB.out 1
  have y2 := frozen_of_block HZB.out 2
  have K1 : Hid (∀ wx, Calls Tryz.prog 115 #[.string s, .string ⟨#[118, 97, 114, 32]⟩] wx fun e w' => e = .returned (.bool false) ∧ w' = wx) := fun wx => by
    have := refStarts_any l [118, 97, 114, 32] wx
    rw [← hs] at this
    rw [show Lib.hasPrefix l [118, 97, 114, 32] = false from hv] at this
    exact this
  have K2 : Hid (∀ wx, Calls Tryz.prog 115 #[.string s, .string ⟨#[102, 110, 32]⟩] wx fun e w' => e = .returned (.bool false) ∧ w' = wx) := fun wx => by
    have := refStarts_any l [102, 110, 32] wx
    rw [← hs] at this
    rw [show Lib.hasPrefix l [102, 110, 32] = false from hp] at this
    exact this
  have HAT : Hid (lineAt l = 2) := by show _ = _; unfold lineAt; rw [if_neg (by rw [hv]; decide), if_neg (by rw [hp]; decide)]
  have hER : lineEr P l = stmtEr P l := by unfold lineEr; rw [if_neg (by rw [hv]; decide), if_neg (by rw [hp]; decide)]
  have hQ : lineQ P l = stmtQ P l := by unfold lineQ; rw [if_neg (by rw [hv]; decide), if_neg (by rw [hp]; decide)]
  have hxk : ∀ k, k ≤ s.size → s.extract k s.size = S (l.drop k) := fun k hk => by rw [extract_S, hsl, List.take_of_length_le]; simp; omega
  obtain ⟨i, hil, hcut, hat, hbe⟩ := cut_found l hyes
  have K3 : Hid (∀ wx k, k < i → Calls Tryz.prog 115 #[.string (s.extract k s.size), .string ⟨#[32, 61, 32]⟩] wx fun e w' => e = .returned (.bool false) ∧ w' = wx) := fun wx k hk => by
    rw [hxk k (by omega), ← hbe k hk]
    exact refStarts_any (l.drop k) eqs wx
  have K4 : Hid (∀ wx, Calls Tryz.prog 115 #[.string (s.extract i s.size), .string ⟨#[32, 61, 32]⟩] wx fun e w' => e = .returned (.bool true) ∧ w' = wx) := fun wx => by
    rw [hxk i (by omega), ← hat]
    exact refStarts_any (l.drop i) eqs wx
  have hx' : x = l.take i := by rw [← hx, hcut]
  have hy' : y = l.drop (i + 3) := by rw [← hy, hcut]
  obtain ⟨bx, hbx⟩ : ∃ b, b = S x := ⟨_, rfl⟩
  obtain ⟨bY, hbY⟩ : ∃ b, b = S y := ⟨_, rfl⟩
  have HXB : Hid (s.extract 0 i = bx ∧ s.extract (i + 3) s.size = bY) := ⟨by rw [extract_S, hsl, hbx, hx']; simp, by rw [hxk (i + 3) (by omega), hbY, hy']⟩
  have lx : x.length ≤ 50000 := by rw [hx']; simp; omega
  have ly : y.length ≤ 50000 := by rw [hy']; simp; omega
  have hbxz : bx.size = x.length := by rw [hbx, S_size]
  have hbYz : bY.size = y.length := by rw [hbY, S_size]
  have hbx5 : bx.size ≤ 50000 := by omega
  have hbY5 : bY.size ≤ 50000 := by omega
  have hi3 : i + 3 ≤ s.size := by omega
  have hii : (i : Int) + 3 ≤ s.size := by omega
  have hin : ((i : Int) == (s.size : Int)) = false := beq_eq_false_iff_ne.2 (by omega)
  have K5 : Hid (∀ wx, Calls Tryz.prog 115 #[.string bx, .string ⟨#[42]⟩] wx fun e w' => e = .returned (.bool false) ∧ w' = wx) := fun wx => by
    have := refStarts_any x [42] wx
    rw [← hbx, show Lib.hasPrefix x [42] = false from g1] at this
    exact this
  have hyn : (bY.toList == [110, 101, 119]) = false := by rw [hbY, S_toList]; exact g2
  have K6 : Hid (∀ wx, Calls Tryz.prog 115 #[.string bY, .string ⟨#[38]⟩] wx fun e w' => e = .returned (.bool false) ∧ w' = wx) := fun wx => by
    have := refStarts_any y [38] wx
    rw [← hbY, show Lib.hasPrefix y [38] = false from g3] at this
    exact this
  have K7 : Hid (∀ wx, Calls Tryz.prog 115 #[.string bY, .string ⟨#[42]⟩] wx fun e w' => e = .returned (.bool true) ∧ w' = wx) := fun wx => by
    have := refStarts_any y [42] wx
    rw [← hbY, show Lib.hasPrefix y [42] = true from g4] at this
    exact this
  have hp1 : 1 ≤ y.length := pre_size g4
  have hp1i : (1 : Int) ≤ bY.size := by omega
  have HE1 : Hid (bY.extract 1 bY.size = S (y.drop 1)) := by
    show _ = _
    rw [extract_S, hbY, S_data, List.take_of_length_le]; rw [S_size]; simp
  clear g1 g2 g3 g4 hp1
  obtain ⟨E, hE⟩ : ∃ E, E = lookE P.vars [x, y.drop 1] := ⟨_, rfl⟩
  have hEc := lookE_cases P.vars [x, y.drop 1]
  rw [← hE] at hEc
  have KU : Hid (∀ W2 nv, Below W.heap.size W W2 → W2.heap[W.heap.size]? = some (stB ⟨#[108, 111, 97, 100]⟩ 0 0 (.slice none 0 0)) → IsStrs W2 nv [x, y.drop 1] → Calls Tryz.prog 117 #[.agg #[.slice a1 m1 n1, .slice a2 m2 n2, .slice a3 m3 n3], nv] W2 fun e w' => ∃ v', e = .returned (.tuple #[v', .int .i64 E]) ∧ (E = 0 → w'.ownsRow (W.heap.size + 1) 3 1 v' 2 (([x, y.drop 1].map (idx P.vars)).map intV)) ∧ Below W.heap.size W w' ∧ w'.heap[W.heap.size]? = some (stB ⟨#[108, 111, 97, 100]⟩ 0 0 (.slice none 0 0))) := fun W2 nv hb hk hn => by
    rw [hE]
    refine (refLookUp_any P [x, y.drop 1] nv _ _ _ W2 hS (by simp; try omega) (fun q hq => by
      simp only [List.mem_cons, List.not_mem_nil, or_false] at hq
      rcases hq with rfl | rfl
      · first | omega | (simp only [List.length_drop]; omega)
      · first | omega | (simp only [List.length_drop]; omega)) (HST.out.below hb).isProg hn).mono fun e w' h => ?_
    obtain ⟨v', he, ho, hb'⟩ := h
    exact ⟨v', he, fun q => owns_mono (ho q) (Array.getElem?_eq_some_iff.1 hk).1, hb.trans (hb'.mono hb.size), block_keep hb' hk⟩
  have HER1 : Hid (lineEr P l = E) := by show _ = _; rw [hER, stmt_er hyes hx hy hN (by rw [hK]; rfl), hE]
  have HQ1 : Hid (lineQ P l = { P with stmts := P.stmts ++ [⟨kLoad, ([x, y.drop 1].map (idx P.vars)).headD 0, ([x, y.drop 1].map (idx P.vars)).getD 1 0, ([x, y.drop 1].map (idx P.vars)).drop 2⟩] }) := by show _ = _; rw [hQ, stmt_q hx hy hN hK rfl]
  have HWB : Hid (w.heap.size ≤ W.heap.size) := HBW.out.1.size
  have HS12 : Hid (bx = S x ∧ bY = S y) := ⟨hbx, hbY⟩
  clear hN hK hE
  clear hER hQ hxk hv hp hyes hcut hat hbe hil hx hy hx' hy' lx ly hbxz hbYz hbx hbY
  clear hst hm1 hm2 hm3 hS hs hsl hsz hz hBW0
  go_enter Tryz.func80, Tryz.ntmps80
  go_wp2_with fail
  rw [← hW]
  clear hW
  refine (K1.out _).mono ?_
  rintro e wq ⟨rfl, hwq⟩
  obtain rfl := hwq.symm
  clear hwq K1
  go_wp2_with fail
  refine (K2.out _).mono ?_
  rintro e wq ⟨rfl, hwq⟩
  obtain rfl := hwq.symm
  clear hwq K2
  go_wp2_with fail
  go_loop [18] (fun t => ∃ k : Nat, k ≤ i ∧ t = .int .i64 k) (fun t => (i - intOf t).toNat)
  case atStart => exact ⟨0, Nat.zero_le _, rfl⟩
  case round =>
  obtain ⟨k, hk, rfl⟩ := hrel
  by_cases hlt : k < i
  · have hki : (k : Int) ≤ s.size := by omega
    have hki2 : (k : Int) < s.size := by omega
    go_wp2_with (go_at_call 115; refine (K3.out _ k hlt).mono ?_; rintro e wq ⟨rfl, hwq⟩; obtain rfl := hwq.symm; clear hwq)
    go_round
    case rel => exact ⟨k + 1, by omega, by go_num⟩
    case measure => simp [intOf]; omega
  obtain rfl : k = i := by omega
  have hki : (k : Int) ≤ s.size := by omega
  have hki2 : (k : Int) < s.size := by omega
  clear K3 hlt hk
  go_upto_region 26 with (go_at_call 115; refine (K4.out _).mono ?_; rintro e wq ⟨rfl, hwq⟩; obtain rfl := hwq.symm; clear hwq)
  go_upto_region 30 with fail
  rw [HXB.out.1, HXB.out.2]
  go_wp2_with fail
  refine (K5.out _).mono ?_
  rintro e wq ⟨rfl, hwq⟩
  obtain rfl := hwq.symm
  clear hwq K5
  go_wp2_with fail
  refine (K6.out _).mono ?_
  rintro e wq ⟨rfl, hwq⟩
  obtain rfl := hwq.symm
  clear hwq K6
  go_wp2_with fail
  refine (K7.out _).mono ?_
  rintro e wq ⟨rfl, hwq⟩
  obtain rfl := hwq.symm
  clear hwq K7
  go_upto_region 56 with fail
  obtain ⟨W2, hW2⟩ : ∃ W2, W2 = ((W.alloc (stB ⟨#[108, 111, 97, 100]⟩ 0 0 (.slice none 0 0))).alloc (.cells #[.string bx, .string bY] 9)).alloc (.cells #[.string bx, .string (bY.extract 1 bY.size)] 9) := ⟨_, rfl⟩
  have hb2 : Below W.heap.size W W2 := by rw [hW2]; repeat (with_reducible first | exact Below.refl _ _ | refine below_au ?_ _ | refine below_setu ?_ (Nat.le_refl _))
  have HB2 : Hid (Below W.heap.size W W2) := hb2
  have HK2 : Hid (W2.heap[W.heap.size]? = some (stB ⟨#[108, 111, 97, 100]⟩ 0 0 (.slice none 0 0))) := by show _ = _; rw [hW2]; exact block_keep (below1 _ _) (block_keep (below1 _ _) (heap_new W _))
  have HN2 : Hid (IsStrs W2 (.slice (some ⟨W.heap.size + 1 + 1, 0, none⟩) 2 2) [x, y.drop 1]) := by show IsStrs _ _ _; rw [hW2, HE1.out, HS12.out.1]; exact isStrs_new2 _ x (y.drop 1) _ (by simp)
  rw [← hW2]
  clear hW2
  replace c0 := cell_keep hb2 c0
  replace c1 := cell_keep hb2 c1
  replace c2 := cell_keep hb2 c2
  clear hb2
  go_wp2_with fail
  refine (KU.out W2 _ HB2.out HK2.out HN2.out).mono ?_
  clear HB2 HK2 HN2
  rintro e w8 ⟨v', rfl, hown, hb8, hk8⟩
  have HOWN : Hid (E = 0 → w8.ownsRow (W.heap.size + 1) 3 1 v' 2 (([x, y.drop 1].map (idx P.vars)).map intV)) := hown
  have HB8 : Hid (Below W.heap.size W w8) := hb8
  have HB8w : Hid (Below w.heap.size w w8) := HBW.out.1.trans (hb8.mono HWB.out)
  have HZ8 : Hid (w8.heap[w.heap.size + 1]? = some zero3) := block_keep hb8 HZB.out
  have HK8 : Hid (w8.heap[W.heap.size]? = some (stB ⟨#[108, 111, 97, 100]⟩ 0 0 (.slice none 0 0))) := hk8
  have HST8 : Hid (Rp w8 B w.heap.size P (.slice a1 m1 n1) (.slice a2 m2 n2) (.slice a3 m3 n3) ps qs) := HST.out.below hb8
  clear hown hb8 hk8 c0 c1 c2 z0 z1 z2 y0 y1 y2 f0 f1 f2 KU
  obtain ⟨c0, c1, c2⟩ := HST8.out.cells
  have z0 : w8.cell? ⟨w.heap.size + 1, 0, none⟩ = some (.slice none 0 0) := by rw [Lib.cell_of_heap HZ8.out]; rfl
  have z1 : w8.cell? ⟨w.heap.size + 1, 1, none⟩ = some (.slice none 0 0) := by rw [Lib.cell_of_heap HZ8.out]; rfl
  have z2 : w8.cell? ⟨w.heap.size + 1, 2, none⟩ = some (.slice none 0 0) := by rw [Lib.cell_of_heap HZ8.out]; rfl
  have y0 := frozen_of_block HZ8.out 0
  have y1 := frozen_of_block HZ8.out 1
  have y2 := frozen_of_block HZ8.out 2
  rcases hEc with rfl | rfl | rfl
  case inr.inl =>
    have HER : Hid (lineEr P l = 1) := HER1.out
    have HZW := HZ8
    go_wp2_with fail
    have hres := res_cells (HZW.out) (.slice a1 m1 n1) (.slice a2 m2 n2) (.slice a3 m3 n3)
    obtain ⟨r0, r1, r2⟩ := hres
    refine bodyPost_ret (v := .tuple #[.agg #[.slice a1 m1 n1, .slice a2 m2 n2, .slice a3 m3 n3], .int .i64 2, .int .i64 1]) (by simp [results, Tryz.results80, go_sem, r0, r1, r2]) rfl ?_
    exact ⟨a1, m1, n1, a2, m2, n2, a3, m3, n3, by rw [HAT.out, HER.out], fun q => absurd (HER.out.symm.trans q) (by decide), line_bad HBW.out.2 HB8w.out _ _ _⟩
  case inr.inr =>
    have HER : Hid (lineEr P l = 6) := HER1.out
    have HZW := HZ8
    go_wp2_with fail
    have hres := res_cells (HZW.out) (.slice a1 m1 n1) (.slice a2 m2 n2) (.slice a3 m3 n3)
    obtain ⟨r0, r1, r2⟩ := hres
    refine bodyPost_ret (v := .tuple #[.agg #[.slice a1 m1 n1, .slice a2 m2 n2, .slice a3 m3 n3], .int .i64 2, .int .i64 6]) (by simp [results, Tryz.results80, go_sem, r0, r1, r2]) rfl ?_
    exact ⟨a1, m1, n1, a2, m2, n2, a3, m3, n3, by rw [HAT.out, HER.out], fun q => absurd (HER.out.symm.trans q) (by decide), line_bad HBW.out.2 HB8w.out _ _ _⟩
  case inl =>
  have HER : Hid (lineEr P l = 0) := HER1.out
  have hown := HOWN.out rfl
  have t0 : w8.cell? ⟨W.heap.size, 0, none⟩ = some (.string ⟨#[108, 111, 97, 100]⟩) := by rw [Lib.cell_of_heap HK8.out]; rfl
  have t1 : w8.cell? ⟨W.heap.size, 1, none⟩ = some (.int .i64 0) := by rw [Lib.cell_of_heap HK8.out]; rfl
  have t2 : w8.cell? ⟨W.heap.size, 2, none⟩ = some (.int .i64 0) := by rw [Lib.cell_of_heap HK8.out]; rfl
  have t3 : w8.cell? ⟨W.heap.size, 3, none⟩ = some (.slice none 0 0) := by rw [Lib.cell_of_heap HK8.out]; rfl
  have u1 := frozen_of_block HK8.out 1
  have u2 := frozen_of_block HK8.out 2
  have u3 := frozen_of_block HK8.out 3
  obtain ⟨ix, hix⟩ : ∃ z, z = idx P.vars (x) := ⟨_, rfl⟩
  obtain ⟨iy, hiy⟩ : ∃ z, z = idx P.vars (y.drop 1) := ⟨_, rfl⟩
  have hzs : [x, y.drop 1].map (idx P.vars) = [ix, iy] := by rw [hix, hiy]; rfl
  rw [hzs] at hown
  obtain ⟨g, c, rfl, hcn, hIO⟩ := intsOwn_drop hown 2 (by omega) (by omega)
  have hgb : W.heap.size + 1 ≤ g := (hown.lt g rfl).1
  have e0 : w8.cell? ⟨g, 0, none⟩ = some (.int .i64 ix) := by
    obtain ⟨b, o, q1, q2⟩ := isInts_at (isCap_of_owns hown).1 0 (by simp)
    cases q1; exact q2
  have e1 : w8.cell? ⟨g, 1, none⟩ = some (.int .i64 iy) := by
    obtain ⟨b, o, q1, q2⟩ := isInts_at (isCap_of_owns hown).1 1 (by simp)
    cases q1; exact q2
  have hne1 : g ≠ W.heap.size := by omega
  have hci : (2 : Int) ≤ c := by omega
  obtain ⟨aa, haa⟩ : ∃ aa : Option Addr, aa = if c = 2 then some ⟨g, 0, none⟩ else some ⟨g, 2, none⟩ := ⟨_, rfl⟩
  obtain ⟨W9, hW9⟩ : ∃ W9, W9 = ((w8.setCell ⟨W.heap.size, 1, none⟩ (.int .i64 ix)).setCell ⟨W.heap.size, 2, none⟩ (.int .i64 iy)).setCell ⟨W.heap.size, 3, none⟩ (.slice aa 0 (c - 2)) := ⟨_, rfl⟩
  have hB9 : Below W.heap.size W W9 := by rw [hW9]; exact below_setu (below_setu (below_setu HB8.out (Nat.le_refl _)) (Nat.le_refl _)) (Nat.le_refl _)
  have hB9w : Below w.heap.size w W9 := HBW.out.1.trans (hB9.mono HWB.out)
  have hK9 : W9.heap[W.heap.size]? = some (stB ⟨#[108, 111, 97, 100]⟩ ix iy (.slice aa 0 (c - 2))) := by
    rw [hW9]; exact st_set (st_set (st_set HK8.out _) _) _
  obtain ⟨v', w7, hr0', d0, d1, ⟨xa, xn, xc, rfl⟩, hSt, hBe, hkp⟩ := (HST.out.below hB9).addStmt (by have := HSM.out.2.2.1; omega) ⟨kLoad, ix, iy, []⟩ (.slice aa 0 (c - 2)) ⟨_, _, rfl, Nat.zero_le _, Or.inl rfl⟩
  have HR : Hid ((Builtin.append_ #[41, 41] 41 #[.slice a3 m3 n3, .slice (some ⟨W9.heap.size, 0, none⟩) 1 1]).run Tryz.prog (W9.alloc (.cells #[.string ⟨#[108, 111, 97, 100]⟩, .int .i64 ix, .int .i64 iy, .slice aa 0 (c - 2)] 60)) = .ok (.slice xa xn xc) w7) := hr0'
  have HS7 : Hid (Rp (w7.setCell ⟨w.heap.size, 2, none⟩ (.slice xa xn xc)) B w.heap.size { P with stmts := P.stmts ++ [⟨kLoad, ix, iy, []⟩] } (.slice a1 m1 n1) (.slice a2 m2 n2) (.slice xa xn xc) ps (qs ++ [.slice aa 0 (c - 2)]) ∧ Below B w (w7.setCell ⟨w.heap.size, 2, none⟩ (.slice xa xn xc)) ∧ KP w (w7.setCell ⟨w.heap.size, 2, none⟩ (.slice xa xn xc))) := ⟨hSt, (hB9w.mono HBW.out.2).trans hBe, kp_set (kp_kept hB9w hkp (by decide)) (Nat.le_refl _)⟩
  have HZ7 : Hid ((w7.setCell ⟨w.heap.size, 2, none⟩ (.slice xa xn xc)).heap[w.heap.size + 1]? = some zero3) := by
    show _ = _
    rw [other_block (by omega)]; exact hkp _ _ _ _ (block_keep hB9 HZB.out) (by decide)
  have HQ : Hid (lineQ P l = { P with stmts := P.stmts ++ [⟨kLoad, ix, iy, []⟩] }) := by show _ = _; rw [HQ1.out, hzs]; rfl
  obtain ⟨j0, j1, j2⟩ := (HST.out.below hB9).cells
  have s0 : W9.cell? ⟨W.heap.size, 0, none⟩ = some (.string ⟨#[108, 111, 97, 100]⟩) := by rw [Lib.cell_of_heap hK9]; rfl
  have s1 : W9.cell? ⟨W.heap.size, 1, none⟩ = some (.int .i64 ix) := by rw [Lib.cell_of_heap hK9]; rfl
  have s2 : W9.cell? ⟨W.heap.size, 2, none⟩ = some (.int .i64 iy) := by rw [Lib.cell_of_heap hK9]; rfl
  have s3 : W9.cell? ⟨W.heap.size, 3, none⟩ = some (.slice aa 0 (c - 2)) := by rw [Lib.cell_of_heap hK9]; rfl
  clear hr0' hSt hBe hkp hIO hzs hix hiy hown HOWN hB9 hB9w hK9 HQ1 HER1 hcn hgb c0 c1 c2 z0 z1 z2 y0 y1 y2
  go_upto_region 72 with fail
  rw [← haa, ← hW9]
  clear hW9 haa
  go_upto_region 73 with (at_builtin; refine Lib.wpList_append_run _ rfl _ _ _ _ rfl _ _ rfl rfl _ _ HR.out ?_)
  go_upto_region 74 with fail
  obtain ⟨W7, hW7⟩ : ∃ W7, W7 = w7.setCell ⟨w.heap.size, 2, none⟩ (.slice xa xn xc) := ⟨_, rfl⟩
  rw [← hW7] at HS7 HZ7 ⊢
  clear hW7
  obtain ⟨k0, k1, k2⟩ := HS7.out.1.cells
  have z0 : W7.cell? ⟨w.heap.size + 1, 0, none⟩ = some (.slice none 0 0) := by rw [Lib.cell_of_heap HZ7.out]; rfl
  have z1 : W7.cell? ⟨w.heap.size + 1, 1, none⟩ = some (.slice none 0 0) := by rw [Lib.cell_of_heap HZ7.out]; rfl
  have z2 : W7.cell? ⟨w.heap.size + 1, 2, none⟩ = some (.slice none 0 0) := by rw [Lib.cell_of_heap HZ7.out]; rfl
  have y0 := frozen_of_block HZ7.out 0
  have y1 := frozen_of_block HZ7.out 1
  have y2 := frozen_of_block HZ7.out 2
  go_wp2_with fail
  obtain ⟨r0, r1, r2⟩ := res_cells (HZ7.out) (.slice a1 m1 n1) (.slice a2 m2 n2) (.slice xa xn xc)
  refine bodyPost_ret (v := .tuple #[.agg #[.slice a1 m1 n1, .slice a2 m2 n2, .slice xa xn xc], .int .i64 2, .int .i64 0]) (by simp [results, Tryz.results80, go_sem, r0, r1, r2]) rfl ?_
  exact ⟨_, _, _, _, _, _, _, _, _, by rw [HAT.out, HER.out], fun _ => ⟨_, _, _, by rw [HQ.out]; exact HS7.out.1.set3 HZ7.out (by omega) _ _ _⟩, line_good HBW.out.2 HS7.out.2 _ _ _⟩
end Go.Proofs.YtakmmpbkojhmhaaGreatDoor

/-
  The document's readLine: lines of statements: stores.
-/
import Derived.Test.YtakmmpbkojhmhaaGreatDoorXEM
namespace Go.Proofs.YtakmmpbkojhmhaaGreatDoor
open Go.RowKit Go.Extern.Stop Go.Stop Go.Extern


set_option maxRecDepth 100000 in
set_option maxHeartbeats 8000000 in
theorem line_store {B : Nat} {P : ProgD} {v1 v2 v3 : Value} {ps qs : List Value} (l : Bs) (w : World) (hst : Rq w B P v1 v2 v3 ps qs) (hz : l.length ≤ 50000) (hS : SmallP P) (hv : Lib.hasPrefix l kv4 = false) (hp : Lib.hasPrefix l kf3 = false) (hyes : (Lib.cut l eqs).2.2 = true) (x y : Bs) (hx : (Lib.cut l eqs).1 = x) (hy : (Lib.cut l eqs).2.1 = y) (g1 : Lib.hasPrefix x [42] = true) (hN : sentN x y = some [x.drop 1, y]) (hK : sentK x y = kStore) :
    Calls Tryz.prog 80 #[.agg #[v1, v2, v3], .string (S l)] w fun e w' => LinePost B w w' P l e := by
  obtain ⟨a1, n1, rfl⟩ := owns_form hst.o1
  obtain ⟨a2, n2, rfl⟩ := owns_form hst.o2
  obtain ⟨a3, n3, rfl⟩ := owns_form hst.o3
  obtain ⟨m1, hm1⟩ : ∃ m, m = P.vars.length := ⟨_, rfl⟩
  obtain ⟨m2, hm2⟩ : ∃ m, m = P.funs.length := ⟨_, rfl⟩
  obtain ⟨m3, hm3⟩ : ∃ m, m = P.stmts.length := ⟨_, rfl⟩
  rw [← hm1, ← hm2, ← hm3] at hst ⊢
  have HMM : Hid (m1 = P.vars.length ∧ m2 = P.funs.length ∧ m3 = P.stmts.length) := ⟨hm1, hm2, hm3⟩
  have HSM : Hid (SmallP P) := hS
  obtain ⟨s, hs⟩ : ∃ s, s = S l := ⟨_, rfl⟩
  have hsl : s.data.toList = l := by rw [hs, S_data]
  have hsz : s.size = l.length := by rw [hs, S_size]
  have hsz2 : s.size ≤ 100000 := by omega
  rw [← hs]
  obtain ⟨W, hW⟩ : ∃ W, W = (w.alloc (.cells #[.slice a1 m1 n1, .slice a2 m2 n2, .slice a3 m3 n3] 43)).alloc zero3 := ⟨_, rfl⟩
  have hBW0 : Below w.heap.size w W := by rw [hW]; exact (below1 w _).alloc (by simp) _
  have HBW : Hid (Below w.heap.size w W ∧ B ≤ w.heap.size) := ⟨hBW0, hst.size⟩
  have HST : Hid (Rp W B w.heap.size P (.slice a1 m1 n1) (.slice a2 m2 n2) (.slice a3 m3 n3) ps qs) := by
    show Rp _ _ _ _ _ _ _ _ _
    rw [hW]; exact hst.rebox.below (below1 _ _)
  have HZB : Hid (W.heap[w.heap.size + 1]? = some zero3) := by
    show _ = _
    rw [hW]
    have := heap_new (w.alloc (.cells #[.slice a1 m1 n1, .slice a2 m2 n2, .slice a3 m3 n3] 43)) zero3
    simpa using this
  obtain ⟨c0, c1, c2⟩ := HST.out.cells
  have f0 := HST.out.frz 0
  have f1 := HST.out.frz 1
  have f2 := HST.out.frz 2
  have z0 : W.cell? ⟨w.heap.size + 1, 0, none⟩ = some (.slice none 0 0) := by rw [Lib.cell_of_heap HZB.out]; rfl
  have z1 : W.cell? ⟨w.heap.size + 1, 1, none⟩ = some (.slice none 0 0) := by rw [Lib.cell_of_heap HZB.out]; rfl
  have z2 : W.cell? ⟨w.heap.size + 1, 2, none⟩ = some (.slice none 0 0) := by rw [Lib.cell_of_heap HZB.out]; rfl
  have y0 := frozen_of_block HZB.out 0
  have y1 := frozen_of_block HZB.out 1
  have y2 := frozen_of_block HZB.out 2
  have K1 : Hid (∀ wx, Calls Tryz.prog 115 #[.string s, .string ⟨#[118, 97, 114, 32]⟩] wx fun e w' => e = .returned (.bool false) ∧ w' = wx) := fun wx => by
    have := refStarts_any l [118, 97, 114, 32] wx
    rw [← hs] at this
    rw [show Lib.hasPrefix l [118, 97, 114, 32] = false from hv] at this
    exact this
  have K2 : Hid (∀ wx, Calls Tryz.prog 115 #[.string s, .string ⟨#[102, 110, 32]⟩] wx fun e w' => e = .returned (.bool false) ∧ w' = wx) := fun wx => by
    have := refStarts_any l [102, 110, 32] wx
    rw [← hs] at this
    rw [show Lib.hasPrefix l [102, 110, 32] = false from hp] at this
    exact this
  have HAT : Hid (lineAt l = 2) := by show _ = _; unfold lineAt; rw [if_neg (by rw [hv]; decide), if_neg (by rw [hp]; decide)]
  have hER : lineEr P l = stmtEr P l := by unfold lineEr; rw [if_neg (by rw [hv]; decide), if_neg (by rw [hp]; decide)]
  have hQ : lineQ P l = stmtQ P l := by unfold lineQ; rw [if_neg (by rw [hv]; decide), if_neg (by rw [hp]; decide)]
  have hxk : ∀ k, k ≤ s.size → s.extract k s.size = S (l.drop k) := fun k hk => by rw [extract_S, hsl, List.take_of_length_le]; simp; omega
  obtain ⟨i, hil, hcut, hat, hbe⟩ := cut_found l hyes
  have K3 : Hid (∀ wx k, k < i → Calls Tryz.prog 115 #[.string (s.extract k s.size), .string ⟨#[32, 61, 32]⟩] wx fun e w' => e = .returned (.bool false) ∧ w' = wx) := fun wx k hk => by
    rw [hxk k (by omega), ← hbe k hk]
    exact refStarts_any (l.drop k) eqs wx
  have K4 : Hid (∀ wx, Calls Tryz.prog 115 #[.string (s.extract i s.size), .string ⟨#[32, 61, 32]⟩] wx fun e w' => e = .returned (.bool true) ∧ w' = wx) := fun wx => by
    rw [hxk i (by omega), ← hat]
    exact refStarts_any (l.drop i) eqs wx
  have hx' : x = l.take i := by rw [← hx, hcut]
  have hy' : y = l.drop (i + 3) := by rw [← hy, hcut]
  obtain ⟨bx, hbx⟩ : ∃ b, b = S x := ⟨_, rfl⟩
  obtain ⟨bY, hbY⟩ : ∃ b, b = S y := ⟨_, rfl⟩
  have HXB : Hid (s.extract 0 i = bx ∧ s.extract (i + 3) s.size = bY) := ⟨by rw [extract_S, hsl, hbx, hx']; simp, by rw [hxk (i + 3) (by omega), hbY, hy']⟩
  have lx : x.length ≤ 50000 := by rw [hx']; simp; omega
  have ly : y.length ≤ 50000 := by rw [hy']; simp; omega
  have hbxz : bx.size = x.length := by rw [hbx, S_size]
  have hbYz : bY.size = y.length := by rw [hbY, S_size]
  have hbx5 : bx.size ≤ 50000 := by omega
  have hbY5 : bY.size ≤ 50000 := by omega
  have hi3 : i + 3 ≤ s.size := by omega
  have hii : (i : Int) + 3 ≤ s.size := by omega
  have hin : ((i : Int) == (s.size : Int)) = false := beq_eq_false_iff_ne.2 (by omega)
  have K5 : Hid (∀ wx, Calls Tryz.prog 115 #[.string bx, .string ⟨#[42]⟩] wx fun e w' => e = .returned (.bool true) ∧ w' = wx) := fun wx => by
    have := refStarts_any x [42] wx
    rw [← hbx, show Lib.hasPrefix x [42] = true from g1] at this
    exact this
  have hp1 : 1 ≤ x.length := pre_size g1
  have hp1i : (1 : Int) ≤ bx.size := by omega
  have HE1 : Hid (bx.extract 1 bx.size = S (x.drop 1)) := by
    show _ = _
    rw [extract_S, hbx, S_data, List.take_of_length_le]; rw [S_size]; simp
  clear g1 hp1
  obtain ⟨E, hE⟩ : ∃ E, E = lookE P.vars [x.drop 1, y] := ⟨_, rfl⟩
  have hEc := lookE_cases P.vars [x.drop 1, y]
  rw [← hE] at hEc
  have KU : Hid (∀ W2 nv, Below W.heap.size W W2 → W2.heap[W.heap.size]? = some (stB ⟨#[115, 116, 111, 114, 101]⟩ 0 0 (.slice none 0 0)) → IsStrs W2 nv [x.drop 1, y] → Calls Tryz.prog 117 #[.agg #[.slice a1 m1 n1, .slice a2 m2 n2, .slice a3 m3 n3], nv] W2 fun e w' => ∃ v', e = .returned (.tuple #[v', .int .i64 E]) ∧ (E = 0 → w'.ownsRow (W.heap.size + 1) 3 1 v' 2 (([x.drop 1, y].map (idx P.vars)).map intV)) ∧ Below W.heap.size W w' ∧ w'.heap[W.heap.size]? = some (stB ⟨#[115, 116, 111, 114, 101]⟩ 0 0 (.slice none 0 0))) := fun W2 nv hb hk hn => by
    rw [hE]
    refine (refLookUp_any P [x.drop 1, y] nv _ _ _ W2 hS (by simp; try omega) (fun q hq => by
      simp only [List.mem_cons, List.not_mem_nil, or_false] at hq
      rcases hq with rfl | rfl
      · first | omega | (simp only [List.length_drop]; omega)
      · first | omega | (simp only [List.length_drop]; omega)) (HST.out.below hb).isProg hn).mono fun e w' h => ?_
    obtain ⟨v', he, ho, hb'⟩ := h
    exact ⟨v', he, fun q => owns_mono (ho q) (Array.getElem?_eq_some_iff.1 hk).1, hb.trans (hb'.mono hb.size), block_keep hb' hk⟩
  have HER1 : Hid (lineEr P l = E) := by show _ = _; rw [hER, stmt_er hyes hx hy hN (by rw [hK]; rfl), hE]
  have HQ1 : Hid (lineQ P l = { P with stmts := P.stmts ++ [⟨kStore, ([x.drop 1, y].map (idx P.vars)).headD 0, ([x.drop 1, y].map (idx P.vars)).getD 1 0, ([x.drop 1, y].map (idx P.vars)).drop 2⟩] }) := by show _ = _; rw [hQ, stmt_q hx hy hN hK rfl]
  have HWB : Hid (w.heap.size ≤ W.heap.size) := HBW.out.1.size
  have HS12 : Hid (bx = S x ∧ bY = S y) := ⟨hbx, hbY⟩
  clear hN hK hE
  clear hER hQ hxk hv hp hyes hcut hat hbe hil hx hy hx' hy' lx ly hbxz hbYz hbx hbY
  clear hst hm1 hm2 hm3 hS hs hsl hsz hz hBW0
  go_enter Tryz.func80, Tryz.ntmps80
  go_wp2_with fail
  rw [← hW]
  clear hW
  refine (K1.out _).mono ?_
  rintro e wq ⟨rfl, hwq⟩
  obtain rfl := hwq.symm
  clear hwq K1
  go_wp2_with fail
  refine (K2.out _).mono ?_
  rintro e wq ⟨rfl, hwq⟩
  obtain rfl := hwq.symm
  clear hwq K2
  go_wp2_with fail
  go_loop [18] (fun t => ∃ k : Nat, k ≤ i ∧ t = .int .i64 k) (fun t => (i - intOf t).toNat)
  case atStart => exact ⟨0, Nat.zero_le _, rfl⟩
  case round =>
  obtain ⟨k, hk, rfl⟩ := hrel
  by_cases hlt : k < i
  · have hki : (k : Int) ≤ s.size := by omega
    have hki2 : (k : Int) < s.size := by omega
    go_wp2_with (go_at_call 115; refine (K3.out _ k hlt).mono ?_; rintro e wq ⟨rfl, hwq⟩; obtain rfl := hwq.symm; clear hwq)
    go_round
    case rel => exact ⟨k + 1, by omega, by go_num⟩
    case measure => simp [intOf]; omega
  obtain rfl : k = i := by omega
  have hki : (k : Int) ≤ s.size := by omega
  have hki2 : (k : Int) < s.size := by omega
  clear K3 hlt hk
  go_upto_region 26 with (go_at_call 115; refine (K4.out _).mono ?_; rintro e wq ⟨rfl, hwq⟩; obtain rfl := hwq.symm; clear hwq)
  go_upto_region 30 with fail
  rw [HXB.out.1, HXB.out.2]
  go_wp2_with fail
  refine (K5.out _).mono ?_
  rintro e wq ⟨rfl, hwq⟩
  obtain rfl := hwq.symm
  clear hwq K5
  go_upto_region 56 with fail
  obtain ⟨W2, hW2⟩ : ∃ W2, W2 = ((W.alloc (stB ⟨#[115, 116, 111, 114, 101]⟩ 0 0 (.slice none 0 0))).alloc (.cells #[.string bx, .string bY] 9)).alloc (.cells #[.string (bx.extract 1 bx.size), .string bY] 9) := ⟨_, rfl⟩
  have hb2 : Below W.heap.size W W2 := by rw [hW2]; repeat (with_reducible first | exact Below.refl _ _ | refine below_au ?_ _ | refine below_setu ?_ (Nat.le_refl _))
  have HB2 : Hid (Below W.heap.size W W2) := hb2
  have HK2 : Hid (W2.heap[W.heap.size]? = some (stB ⟨#[115, 116, 111, 114, 101]⟩ 0 0 (.slice none 0 0))) := by show _ = _; rw [hW2]; exact block_keep (below1 _ _) (block_keep (below1 _ _) (heap_new W _))
  have HN2 : Hid (IsStrs W2 (.slice (some ⟨W.heap.size + 1 + 1, 0, none⟩) 2 2) [x.drop 1, y]) := by show IsStrs _ _ _; rw [hW2, HE1.out, HS12.out.2]; exact isStrs_new2 _ (x.drop 1) y _ (by simp)
  rw [← hW2]
  clear hW2
  replace c0 := cell_keep hb2 c0
  replace c1 := cell_keep hb2 c1
  replace c2 := cell_keep hb2 c2
  clear hb2
  go_wp2_with fail
  refine (KU.out W2 _ HB2.out HK2.out HN2.out).mono ?_
  clear HB2 HK2 HN2
  rintro e w8 ⟨v', rfl, hown, hb8, hk8⟩
  have HOWN : Hid (E = 0 → w8.ownsRow (W.heap.size + 1) 3 1 v' 2 (([x.drop 1, y].map (idx P.vars)).map intV)) := hown
  have HB8 : Hid (Below W.heap.size W w8) := hb8
  have HB8w : Hid (Below w.heap.size w w8) := HBW.out.1.trans (hb8.mono HWB.out)
  have HZ8 : Hid (w8.heap[w.heap.size + 1]? = some zero3) := block_keep hb8 HZB.out
  have HK8 : Hid (w8.heap[W.heap.size]? = some (stB ⟨#[115, 116, 111, 114, 101]⟩ 0 0 (.slice none 0 0))) := hk8
  have HST8 : Hid (Rp w8 B w.heap.size P (.slice a1 m1 n1) (.slice a2 m2 n2) (.slice a3 m3 n3) ps qs) := HST.out.below hb8
  clear hown hb8 hk8 c0 c1 c2 z0 z1 z2 y0 y1 y2 f0 f1 f2 KU
  obtain ⟨c0, c1, c2⟩ := HST8.out.cells
  have z0 : w8.cell? ⟨w.heap.size + 1, 0, none⟩ = some (.slice none 0 0) := by rw [Lib.cell_of_heap HZ8.out]; rfl
  have z1 : w8.cell? ⟨w.heap.size + 1, 1, none⟩ = some (.slice none 0 0) := by rw [Lib.cell_of_heap HZ8.out]; rfl
  have z2 : w8.cell? ⟨w.heap.size + 1, 2, none⟩ = some (.slice none 0 0) := by rw [Lib.cell_of_heap HZ8.out]; rfl
  have y0 := frozen_of_block HZ8.out 0
  have y1 := frozen_of_block HZ8.out 1
  have y2 := frozen_of_block HZ8.out 2
  rcases hEc with rfl | rfl | rfl
  case inr.inl =>
    have HER : Hid (lineEr P l = 1) := HER1.out
    have HZW := HZ8
    go_wp2_with fail
    have hres := res_cells (HZW.out) (.slice a1 m1 n1) (.slice a2 m2 n2) (.slice a3 m3 n3)
    obtain ⟨r0, r1, r2⟩ := hres
    refine bodyPost_ret (v := .tuple #[.agg #[.slice a1 m1 n1, .slice a2 m2 n2, .slice a3 m3 n3], .int .i64 2, .int .i64 1]) (by simp [results, Tryz.results80, go_sem, r0, r1, r2]) rfl ?_
    exact ⟨a1, m1, n1, a2, m2, n2, a3, m3, n3, by rw [HAT.out, HER.out], fun q => absurd (HER.out.symm.trans q) (by decide), line_bad HBW.out.2 HB8w.out _ _ _⟩
  case inr.inr =>
    have HER : Hid (lineEr P l = 6) := HER1.out
    have HZW := HZ8
    go_wp2_with fail
    have hres := res_cells (HZW.out) (.slice a1 m1 n1) (.slice a2 m2 n2) (.slice a3 m3 n3)
    obtain ⟨r0, r1, r2⟩ := hres
    refine bodyPost_ret (v := .tuple #[.agg #[.slice a1 m1 n1, .slice a2 m2 n2, .slice a3 m3 n3], .int .i64 2, .int .i64 6]) (by simp [results, Tryz.results80, go_sem, r0, r1, r2]) rfl ?_
    exact ⟨a1, m1, n1, a2, m2, n2, a3, m3, n3, by rw [HAT.out, HER.out], fun q => absurd (HER.out.symm.trans q) (by decide), line_bad HBW.out.2 HB8w.out _ _ _⟩
  case inl =>
  have HER : Hid (lineEr P l = 0) := HER1.out
  have hown := HOWN.out rfl
  have t0 : w8.cell? ⟨W.heap.size, 0, none⟩ = some (.string ⟨#[115, 116, 111, 114, 101]⟩) := by rw [Lib.cell_of_heap HK8.out]; rfl
  have t1 : w8.cell? ⟨W.heap.size, 1, none⟩ = some (.int .i64 0) := by rw [Lib.cell_of_heap HK8.out]; rfl
  have t2 : w8.cell? ⟨W.heap.size, 2, none⟩ = some (.int .i64 0) := by rw [Lib.cell_of_heap HK8.out]; rfl
  have t3 : w8.cell? ⟨W.heap.size, 3, none⟩ = some (.slice none 0 0) := by rw [Lib.cell_of_heap HK8.out]; rfl
  have u1 := frozen_of_block HK8.out 1
  have u2 := frozen_of_block HK8.out 2
  have u3 := frozen_of_block HK8.out 3
  obtain ⟨ix, hix⟩ : ∃ z, z = idx P.vars (x.drop 1) := ⟨_, rfl⟩
  obtain ⟨iy, hiy⟩ : ∃ z, z = idx P.vars (y) := ⟨_, rfl⟩
  have hzs : [x.drop 1, y].map (idx P.vars) = [ix, iy] := by rw [hix, hiy]; rfl
  rw [hzs] at hown
  obtain ⟨g, c, rfl, hcn, hIO⟩ := intsOwn_drop hown 2 (by omega) (by omega)
  have hgb : W.heap.size + 1 ≤ g := (hown.lt g rfl).1
  have e0 : w8.cell? ⟨g, 0, none⟩ = some (.int .i64 ix) := by
    obtain ⟨b, o, q1, q2⟩ := isInts_at (isCap_of_owns hown).1 0 (by simp)
    cases q1; exact q2
  have e1 : w8.cell? ⟨g, 1, none⟩ = some (.int .i64 iy) := by
    obtain ⟨b, o, q1, q2⟩ := isInts_at (isCap_of_owns hown).1 1 (by simp)
    cases q1; exact q2
  have hne1 : g ≠ W.heap.size := by omega
  have hci : (2 : Int) ≤ c := by omega
  obtain ⟨aa, haa⟩ : ∃ aa : Option Addr, aa = if c = 2 then some ⟨g, 0, none⟩ else some ⟨g, 2, none⟩ := ⟨_, rfl⟩
  obtain ⟨W9, hW9⟩ : ∃ W9, W9 = ((w8.setCell ⟨W.heap.size, 1, none⟩ (.int .i64 ix)).setCell ⟨W.heap.size, 2, none⟩ (.int .i64 iy)).setCell ⟨W.heap.size, 3, none⟩ (.slice aa 0 (c - 2)) := ⟨_, rfl⟩
  have hB9 : Below W.heap.size W W9 := by rw [hW9]; exact below_setu (below_setu (below_setu HB8.out (Nat.le_refl _)) (Nat.le_refl _)) (Nat.le_refl _)
  have hB9w : Below w.heap.size w W9 := HBW.out.1.trans (hB9.mono HWB.out)
  have hK9 : W9.heap[W.heap.size]? = some (stB ⟨#[115, 116, 111, 114, 101]⟩ ix iy (.slice aa 0 (c - 2))) := by
    rw [hW9]; exact st_set (st_set (st_set HK8.out _) _) _
  obtain ⟨v', w7, hr0', d0, d1, ⟨xa, xn, xc, rfl⟩, hSt, hBe, hkp⟩ := (HST.out.below hB9).addStmt (by have := HSM.out.2.2.1; omega) ⟨kStore, ix, iy, []⟩ (.slice aa 0 (c - 2)) ⟨_, _, rfl, Nat.zero_le _, Or.inl rfl⟩
  have HR : Hid ((Builtin.append_ #[41, 41] 41 #[.slice a3 m3 n3, .slice (some ⟨W9.heap.size, 0, none⟩) 1 1]).run Tryz.prog (W9.alloc (.cells #[.string ⟨#[115, 116, 111, 114, 101]⟩, .int .i64 ix, .int .i64 iy, .slice aa 0 (c - 2)] 60)) = .ok (.slice xa xn xc) w7) := hr0'
  have HS7 : Hid (Rp (w7.setCell ⟨w.heap.size, 2, none⟩ (.slice xa xn xc)) B w.heap.size { P with stmts := P.stmts ++ [⟨kStore, ix, iy, []⟩] } (.slice a1 m1 n1) (.slice a2 m2 n2) (.slice xa xn xc) ps (qs ++ [.slice aa 0 (c - 2)]) ∧ Below B w (w7.setCell ⟨w.heap.size, 2, none⟩ (.slice xa xn xc)) ∧ KP w (w7.setCell ⟨w.heap.size, 2, none⟩ (.slice xa xn xc))) := ⟨hSt, (hB9w.mono HBW.out.2).trans hBe, kp_set (kp_kept hB9w hkp (by decide)) (Nat.le_refl _)⟩
  have HZ7 : Hid ((w7.setCell ⟨w.heap.size, 2, none⟩ (.slice xa xn xc)).heap[w.heap.size + 1]? = some zero3) := by
    show _ = _
    rw [other_block (by omega)]; exact hkp _ _ _ _ (block_keep hB9 HZB.out) (by decide)
  have HQ : Hid (lineQ P l = { P with stmts := P.stmts ++ [⟨kStore, ix, iy, []⟩] }) := by show _ = _; rw [HQ1.out, hzs]; rfl
  obtain ⟨j0, j1, j2⟩ := (HST.out.below hB9).cells
  have s0 : W9.cell? ⟨W.heap.size, 0, none⟩ = some (.string ⟨#[115, 116, 111, 114, 101]⟩) := by rw [Lib.cell_of_heap hK9]; rfl
  have s1 : W9.cell? ⟨W.heap.size, 1, none⟩ = some (.int .i64 ix) := by rw [Lib.cell_of_heap hK9]; rfl
  have s2 : W9.cell? ⟨W.heap.size, 2, none⟩ = some (.int .i64 iy) := by rw [Lib.cell_of_heap hK9]; rfl
  have s3 : W9.cell? ⟨W.heap.size, 3, none⟩ = some (.slice aa 0 (c - 2)) := by rw [Lib.cell_of_heap hK9]; rfl
  clear hr0' hSt hBe hkp hIO hzs hix hiy hown HOWN hB9 hB9w hK9 HQ1 HER1 hcn hgb c0 c1 c2 z0 z1 z2 y0 y1 y2
  go_upto_region 72 with fail
  rw [← haa, ← hW9]
  clear hW9 haa
  go_upto_region 73 with (at_builtin; refine Lib.wpList_append_run _ rfl _ _ _ _ rfl _ _ rfl rfl _ _ HR.out ?_)
  go_upto_region 74 with fail
  obtain ⟨W7, hW7⟩ : ∃ W7, W7 = w7.setCell ⟨w.heap.size, 2, none⟩ (.slice xa xn xc) := ⟨_, rfl⟩
  rw [← hW7] at HS7 HZ7 ⊢
  clear hW7
  obtain ⟨k0, k1, k2⟩ := HS7.out.1.cells
  have z0 : W7.cell? ⟨w.heap.size + 1, 0, none⟩ = some (.slice none 0 0) := by rw [Lib.cell_of_heap HZ7.out]; rfl
  have z1 : W7.cell? ⟨w.heap.size + 1, 1, none⟩ = some (.slice none 0 0) := by rw [Lib.cell_of_heap HZ7.out]; rfl
  have z2 : W7.cell? ⟨w.heap.size + 1, 2, none⟩ = some (.slice none 0 0) := by rw [Lib.cell_of_heap HZ7.out]; rfl
  have y0 := frozen_of_block HZ7.out 0
  have y1 := frozen_of_block HZ7.out 1
  have y2 := frozen_of_block HZ7.out 2
  go_wp2_with fail
  obtain ⟨r0, r1, r2⟩ := res_cells (HZ7.out) (.slice a1 m1 n1) (.slice a2 m2 n2) (.slice xa xn xc)
  refine bodyPost_ret (v := .tuple #[.agg #[.slice a1 m1 n1, .slice a2 m2 n2, .slice xa xn xc], .int .i64 2, .int .i64 0]) (by simp [results, Tryz.results80, go_sem, r0, r1, r2]) rfl ?_
  exact ⟨_, _, _, _, _, _, _, _, _, by rw [HAT.out, HER.out], fun _ => ⟨_, _, _, by rw [HQ.out]; exact HS7.out.1.set3 HZ7.out (by omega) _ _ _⟩, line_good HBW.out.2 HS7.out.2 _ _ _⟩
end Go.Proofs.YtakmmpbkojhmhaaGreatDoor

/-
  The document's readLine: lines of statements: things.
-/
namespace Go.Proofs.YtakmmpbkojhmhaaGreatDoor
open Go.RowKit Go.Extern.Stop Go.Stop Go.Extern


set_option maxRecDepth 100000 in
set_option maxHeartbeats 8000000 in
theorem line_new {B : Nat} {P : ProgD} {v1 v2 v3 : Value} {ps qs : List Value} (l : Bs) (w : World) (hst : Rq w B P v1 v2 v3 ps qs) (hz : l.length ≤ 50000) (hS : SmallP P) (hv : Lib.hasPrefix l kv4 = false) (hp : Lib.hasPrefix l kf3 = false) (hyes : (Lib.cut l eqs).2.2 = true) (x y : Bs) (hx : (Lib.cut l eqs).1 = x) (hy : (Lib.cut l eqs).2.1 = y) (g1 : Lib.hasPrefix x [42] = false) (g2 : (y == kNew) = true) (hN : sentN x y = some [x]) (hK : sentK x y = kNew) :
    Calls Tryz.prog 80 #[.agg #[v1, v2, v3], .string (S l)] w fun e w' => LinePost B w w' P l e := by
  obtain ⟨a1, n1, rfl⟩ := owns_form hst.o1
  obtain ⟨a2, n2, rfl⟩ := owns_form hst.o2
  obtain ⟨a3, n3, rfl⟩ := owns_form hst.o3
  obtain ⟨m1, hm1⟩ : ∃ m, m = P.vars.length := ⟨_, rfl⟩
  obtain ⟨m2, hm2⟩ : ∃ m, m = P.funs.length := ⟨_, rfl⟩
  obtain ⟨m3, hm3⟩ : ∃ m, m = P.stmts.length := ⟨_, rfl⟩
  rw [← hm1, ← hm2, ← hm3] at hst ⊢
  have HMM : Hid (m1 = P.vars.length ∧ m2 = P.funs.length ∧ m3 = P.stmts.length) := ⟨hm1, hm2, hm3⟩
  have HSM : Hid (SmallP P) := hS
  obtain ⟨s, hs⟩ : ∃ s, s = S l := ⟨_, rfl⟩
  have hsl : s.data.toList = l := by rw [hs, S_data]
  have hsz : s.size = l.length := by rw [hs, S_size]
  have hsz2 : s.size ≤ 100000 := by omega
  rw [← hs]
  obtain ⟨W, hW⟩ : ∃ W, W = (w.alloc (.cells #[.slice a1 m1 n1, .slice a2 m2 n2, .slice a3 m3 n3] 43)).alloc zero3 := ⟨_, rfl⟩
  have hBW0 : Below w.heap.size w W := by rw [hW]; exact (below1 w _).alloc (by simp) _
  have HBW : Hid (Below w.heap.size w W ∧ B ≤ w.heap.size) := ⟨hBW0, hst.size⟩
  have HST : Hid (Rp W B w.heap.size P (.slice a1 m1 n1) (.slice a2 m2 n2) (.slice a3 m3 n3) ps qs) := by
    show Rp _ _ _ _ _ _ _ _ _
    rw [hW]; exact hst.rebox.below (below1 _ _)
  have HZB : Hid (W.heap[w.heap.size + 1]? = some zero3) := by
    show _ = _
    rw [hW]
    have := heap_new (w.alloc (.cells #[.slice a1 m1 n1, .slice a2 m2 n2, .slice a3 m3 n3] 43)) zero3
    simpa using this
  obtain ⟨c0, c1, c2⟩ := HST.out.cells
  have f0 := HST.out.frz 0
  have f1 := HST.out.frz 1
  have f2 := HST.out.frz 2
  have z0 : W.cell? ⟨w.heap.size + 1, 0, none⟩ = some (.slice none 0 0) := by rw [Lib.cell_of_heap HZB.out]; rfl
  have z1 : W.cell? ⟨w.heap.size + 1, 1, none⟩ = some (.slice none 0 0) := by rw [Lib.cell_of_heap HZB.out]; rfl
  have z2 : W.cell? ⟨w.heap.size + 1, 2, none⟩ = some (.slice none 0 0) := by rw [Lib.cell_of_heap HZB.out]; rfl
  have y0 := frozen_of_block HZB.out 0
  have y1 := frozen_of_block HZB.out 1
  have y2 := frozen_of_block HZB.out 2
  have K1 : Hid (∀ wx, Calls Tryz.prog 115 #[.string s, .string ⟨#[118, 97, 114, 32]⟩] wx fun e w' => e = .returned (.bool false) ∧ w' = wx) := fun wx => by
    have := refStarts_any l [118, 97, 114, 32] wx
    rw [← hs] at this
    rw [show Lib.hasPrefix l [118, 97, 114, 32] = false from hv] at this
    exact this
  have K2 : Hid (∀ wx, Calls Tryz.prog 115 #[.string s, .string ⟨#[102, 110, 32]⟩] wx fun e w' => e = .returned (.bool false) ∧ w' = wx) := fun wx => by
    have := refStarts_any l [102, 110, 32] wx
    rw [← hs] at this
    rw [show Lib.hasPrefix l [102, 110, 32] = false from hp] at this
    exact this
  have HAT : Hid (lineAt l = 2) := by show _ = _; unfold lineAt; rw [if_neg (by rw [hv]; decide), if_neg (by rw [hp]; decide)]
  have hER : lineEr P l = stmtEr P l := by unfold lineEr; rw [if_neg (by rw [hv]; decide), if_neg (by rw [hp]; decide)]
  have hQ : lineQ P l = stmtQ P l := by unfold lineQ; rw [if_neg (by rw [hv]; decide), if_neg (by rw [hp]; decide)]
  have hxk : ∀ k, k ≤ s.size → s.extract k s.size = S (l.drop k) := fun k hk => by rw [extract_S, hsl, List.take_of_length_le]; simp; omega
  obtain ⟨i, hil, hcut, hat, hbe⟩ := cut_found l hyes
  have K3 : Hid (∀ wx k, k < i → Calls Tryz.prog 115 #[.string (s.extract k s.size), .string ⟨#[32, 61, 32]⟩] wx fun e w' => e = .returned (.bool false) ∧ w' = wx) := fun wx k hk => by
    rw [hxk k (by omega), ← hbe k hk]
    exact refStarts_any (l.drop k) eqs wx
  have K4 : Hid (∀ wx, Calls Tryz.prog 115 #[.string (s.extract i s.size), .string ⟨#[32, 61, 32]⟩] wx fun e w' => e = .returned (.bool true) ∧ w' = wx) := fun wx => by
    rw [hxk i (by omega), ← hat]
    exact refStarts_any (l.drop i) eqs wx
  have hx' : x = l.take i := by rw [← hx, hcut]
  have hy' : y = l.drop (i + 3) := by rw [← hy, hcut]
  obtain ⟨bx, hbx⟩ : ∃ b, b = S x := ⟨_, rfl⟩
  obtain ⟨bY, hbY⟩ : ∃ b, b = S y := ⟨_, rfl⟩
  have HXB : Hid (s.extract 0 i = bx ∧ s.extract (i + 3) s.size = bY) := ⟨by rw [extract_S, hsl, hbx, hx']; simp, by rw [hxk (i + 3) (by omega), hbY, hy']⟩
  have lx : x.length ≤ 50000 := by rw [hx']; simp; omega
  have ly : y.length ≤ 50000 := by rw [hy']; simp; omega
  have hbxz : bx.size = x.length := by rw [hbx, S_size]
  have hbYz : bY.size = y.length := by rw [hbY, S_size]
  have hbx5 : bx.size ≤ 50000 := by omega
  have hbY5 : bY.size ≤ 50000 := by omega
  have hi3 : i + 3 ≤ s.size := by omega
  have hii : (i : Int) + 3 ≤ s.size := by omega
  have hin : ((i : Int) == (s.size : Int)) = false := beq_eq_false_iff_ne.2 (by omega)
  have K5 : Hid (∀ wx, Calls Tryz.prog 115 #[.string bx, .string ⟨#[42]⟩] wx fun e w' => e = .returned (.bool false) ∧ w' = wx) := fun wx => by
    have := refStarts_any x [42] wx
    rw [← hbx, show Lib.hasPrefix x [42] = false from g1] at this
    exact this
  have hyn : (bY.toList == [110, 101, 119]) = true := by rw [hbY, S_toList]; exact g2
  obtain ⟨E, hE⟩ : ∃ E, E = lookE P.vars [x] := ⟨_, rfl⟩
  have hEc := lookE_cases P.vars [x]
  rw [← hE] at hEc
  have KU : Hid (∀ W2 nv, Below W.heap.size W W2 → W2.heap[W.heap.size]? = some (stB ⟨#[110, 101, 119]⟩ 0 0 (.slice none 0 0)) → IsStrs W2 nv [x] → Calls Tryz.prog 117 #[.agg #[.slice a1 m1 n1, .slice a2 m2 n2, .slice a3 m3 n3], nv] W2 fun e w' => ∃ v', e = .returned (.tuple #[v', .int .i64 E]) ∧ (E = 0 → w'.ownsRow (W.heap.size + 1) 3 1 v' 1 (([x].map (idx P.vars)).map intV)) ∧ Below W.heap.size W w' ∧ w'.heap[W.heap.size]? = some (stB ⟨#[110, 101, 119]⟩ 0 0 (.slice none 0 0))) := fun W2 nv hb hk hn => by
    rw [hE]
    refine (refLookUp_any P [x] nv _ _ _ W2 hS (by simp; try omega) (fun q hq => by
      simp only [List.mem_cons, List.not_mem_nil, or_false] at hq
      subst hq; omega) (HST.out.below hb).isProg hn).mono fun e w' h => ?_
    obtain ⟨v', he, ho, hb'⟩ := h
    exact ⟨v', he, fun q => owns_mono (ho q) (Array.getElem?_eq_some_iff.1 hk).1, hb.trans (hb'.mono hb.size), block_keep hb' hk⟩
  have HER1 : Hid (lineEr P l = E) := by show _ = _; rw [hER, stmt_er hyes hx hy hN (by rw [hK]; rfl), hE]
  have HQ1 : Hid (lineQ P l = { P with stmts := P.stmts ++ [⟨kNew, ([x].map (idx P.vars)).headD 0, ([x].map (idx P.vars)).getD 1 0, ([x].map (idx P.vars)).drop 2⟩] }) := by show _ = _; rw [hQ, stmt_q hx hy hN hK rfl]
  have HWB : Hid (w.heap.size ≤ W.heap.size) := HBW.out.1.size
  have HS12 : Hid (bx = S x ∧ bY = S y) := ⟨hbx, hbY⟩
  clear hN hK hE g1 g2
  clear hER hQ hxk hv hp hyes hcut hat hbe hil hx hy hx' hy' lx ly hbxz hbYz hbx hbY
  clear hst hm1 hm2 hm3 hS hs hsl hsz hz hBW0
  go_enter Tryz.func80, Tryz.ntmps80
  go_wp2_with fail
  rw [← hW]
  clear hW
  refine (K1.out _).mono ?_
  rintro e wq ⟨rfl, hwq⟩
  obtain rfl := hwq.symm
  clear hwq K1
  go_wp2_with fail
  refine (K2.out _).mono ?_
  rintro e wq ⟨rfl, hwq⟩
  obtain rfl := hwq.symm
  clear hwq K2
  go_wp2_with fail
  go_loop [18] (fun t => ∃ k : Nat, k ≤ i ∧ t = .int .i64 k) (fun t => (i - intOf t).toNat)
  case atStart => exact ⟨0, Nat.zero_le _, rfl⟩
  case round =>
  obtain ⟨k, hk, rfl⟩ := hrel
  by_cases hlt : k < i
  · have hki : (k : Int) ≤ s.size := by omega
    have hki2 : (k : Int) < s.size := by omega
    go_wp2_with (go_at_call 115; refine (K3.out _ k hlt).mono ?_; rintro e wq ⟨rfl, hwq⟩; obtain rfl := hwq.symm; clear hwq)
    go_round
    case rel => exact ⟨k + 1, by omega, by go_num⟩
    case measure => simp [intOf]; omega
  obtain rfl : k = i := by omega
  have hki : (k : Int) ≤ s.size := by omega
  have hki2 : (k : Int) < s.size := by omega
  clear K3 hlt hk
  go_upto_region 26 with (go_at_call 115; refine (K4.out _).mono ?_; rintro e wq ⟨rfl, hwq⟩; obtain rfl := hwq.symm; clear hwq)
  go_upto_region 30 with fail
  rw [HXB.out.1, HXB.out.2]
  go_wp2_with fail
  refine (K5.out _).mono ?_
  rintro e wq ⟨rfl, hwq⟩
  obtain rfl := hwq.symm
  clear hwq K5
  go_upto_region 56 with fail
  obtain ⟨W2, hW2⟩ : ∃ W2, W2 = ((W.alloc (stB ⟨#[110, 101, 119]⟩ 0 0 (.slice none 0 0))).alloc (.cells #[.string bx, .string bY] 9)).alloc (.cells #[.string bx] 9) := ⟨_, rfl⟩
  have hb2 : Below W.heap.size W W2 := by rw [hW2]; repeat (with_reducible first | exact Below.refl _ _ | refine below_au ?_ _ | refine below_setu ?_ (Nat.le_refl _))
  have HB2 : Hid (Below W.heap.size W W2) := hb2
  have HK2 : Hid (W2.heap[W.heap.size]? = some (stB ⟨#[110, 101, 119]⟩ 0 0 (.slice none 0 0))) := by show _ = _; rw [hW2]; exact block_keep (below1 _ _) (block_keep (below1 _ _) (heap_new W _))
  have HN2 : Hid (IsStrs W2 (.slice (some ⟨W.heap.size + 1 + 1, 0, none⟩) 1 1) [x]) := by show IsStrs _ _ _; rw [hW2, HS12.out.1]; exact isStrs_new1 _ x _ (by simp)
  rw [← hW2]
  clear hW2
  replace c0 := cell_keep hb2 c0
  replace c1 := cell_keep hb2 c1
  replace c2 := cell_keep hb2 c2
  clear hb2
  go_wp2_with fail
  refine (KU.out W2 _ HB2.out HK2.out HN2.out).mono ?_
  clear HB2 HK2 HN2
  rintro e w8 ⟨v', rfl, hown, hb8, hk8⟩
  have HOWN : Hid (E = 0 → w8.ownsRow (W.heap.size + 1) 3 1 v' 1 (([x].map (idx P.vars)).map intV)) := hown
  have HB8 : Hid (Below W.heap.size W w8) := hb8
  have HB8w : Hid (Below w.heap.size w w8) := HBW.out.1.trans (hb8.mono HWB.out)
  have HZ8 : Hid (w8.heap[w.heap.size + 1]? = some zero3) := block_keep hb8 HZB.out
  have HK8 : Hid (w8.heap[W.heap.size]? = some (stB ⟨#[110, 101, 119]⟩ 0 0 (.slice none 0 0))) := hk8
  have HST8 : Hid (Rp w8 B w.heap.size P (.slice a1 m1 n1) (.slice a2 m2 n2) (.slice a3 m3 n3) ps qs) := HST.out.below hb8
  clear hown hb8 hk8 c0 c1 c2 z0 z1 z2 y0 y1 y2 f0 f1 f2 KU
  obtain ⟨c0, c1, c2⟩ := HST8.out.cells
  have z0 : w8.cell? ⟨w.heap.size + 1, 0, none⟩ = some (.slice none 0 0) := by rw [Lib.cell_of_heap HZ8.out]; rfl
  have z1 : w8.cell? ⟨w.heap.size + 1, 1, none⟩ = some (.slice none 0 0) := by rw [Lib.cell_of_heap HZ8.out]; rfl
  have z2 : w8.cell? ⟨w.heap.size + 1, 2, none⟩ = some (.slice none 0 0) := by rw [Lib.cell_of_heap HZ8.out]; rfl
  have y0 := frozen_of_block HZ8.out 0
  have y1 := frozen_of_block HZ8.out 1
  have y2 := frozen_of_block HZ8.out 2
  rcases hEc with rfl | rfl | rfl
  case inr.inl =>
    have HER : Hid (lineEr P l = 1) := HER1.out
    have HZW := HZ8
    go_wp2_with fail
    have hres := res_cells (HZW.out) (.slice a1 m1 n1) (.slice a2 m2 n2) (.slice a3 m3 n3)
    obtain ⟨r0, r1, r2⟩ := hres
    refine bodyPost_ret (v := .tuple #[.agg #[.slice a1 m1 n1, .slice a2 m2 n2, .slice a3 m3 n3], .int .i64 2, .int .i64 1]) (by simp [results, Tryz.results80, go_sem, r0, r1, r2]) rfl ?_
    exact ⟨a1, m1, n1, a2, m2, n2, a3, m3, n3, by rw [HAT.out, HER.out], fun q => absurd (HER.out.symm.trans q) (by decide), line_bad HBW.out.2 HB8w.out _ _ _⟩
  case inr.inr =>
    have HER : Hid (lineEr P l = 6) := HER1.out
    have HZW := HZ8
    go_wp2_with fail
    have hres := res_cells (HZW.out) (.slice a1 m1 n1) (.slice a2 m2 n2) (.slice a3 m3 n3)
    obtain ⟨r0, r1, r2⟩ := hres
    refine bodyPost_ret (v := .tuple #[.agg #[.slice a1 m1 n1, .slice a2 m2 n2, .slice a3 m3 n3], .int .i64 2, .int .i64 6]) (by simp [results, Tryz.results80, go_sem, r0, r1, r2]) rfl ?_
    exact ⟨a1, m1, n1, a2, m2, n2, a3, m3, n3, by rw [HAT.out, HER.out], fun q => absurd (HER.out.symm.trans q) (by decide), line_bad HBW.out.2 HB8w.out _ _ _⟩
  case inl =>
  have HER : Hid (lineEr P l = 0) := HER1.out
  have hown := HOWN.out rfl
  have t0 : w8.cell? ⟨W.heap.size, 0, none⟩ = some (.string ⟨#[110, 101, 119]⟩) := by rw [Lib.cell_of_heap HK8.out]; rfl
  have t1 : w8.cell? ⟨W.heap.size, 1, none⟩ = some (.int .i64 0) := by rw [Lib.cell_of_heap HK8.out]; rfl
  have t2 : w8.cell? ⟨W.heap.size, 2, none⟩ = some (.int .i64 0) := by rw [Lib.cell_of_heap HK8.out]; rfl
  have t3 : w8.cell? ⟨W.heap.size, 3, none⟩ = some (.slice none 0 0) := by rw [Lib.cell_of_heap HK8.out]; rfl
  have u1 := frozen_of_block HK8.out 1
  have u2 := frozen_of_block HK8.out 2
  have u3 := frozen_of_block HK8.out 3
  obtain ⟨ix, hix⟩ : ∃ z, z = idx P.vars x := ⟨_, rfl⟩
  have hzs : [x].map (idx P.vars) = [ix] := by rw [hix]; rfl
  rw [hzs] at hown
  obtain ⟨g, c, rfl, hcn, hIO⟩ := intsOwn_drop hown 1 (by omega) (by omega)
  have hgb : W.heap.size + 1 ≤ g := (hown.lt g rfl).1
  have e0 : w8.cell? ⟨g, 0, none⟩ = some (.int .i64 ix) := by
    obtain ⟨b, o, q1, q2⟩ := isInts_at (isCap_of_owns hown).1 0 (by simp)
    cases q1; exact q2
  have hne1 : g ≠ W.heap.size := by omega
  obtain ⟨W9, hW9⟩ : ∃ W9, W9 = w8.setCell ⟨W.heap.size, 1, none⟩ (.int .i64 ix) := ⟨_, rfl⟩
  have hB9 : Below W.heap.size W W9 := by rw [hW9]; exact below_setu HB8.out (Nat.le_refl _)
  have hB9w : Below w.heap.size w W9 := HBW.out.1.trans (hB9.mono HWB.out)
  have hK9 : W9.heap[W.heap.size]? = some (stB ⟨#[110, 101, 119]⟩ ix 0 (.slice none 0 0)) := by
    rw [hW9]; exact st_set HK8.out _
  obtain ⟨v', w7, hr0', d0, d1, ⟨xa, xn, xc, rfl⟩, hSt, hBe, hkp⟩ := (HST.out.below hB9).addStmt (by have := HSM.out.2.2.1; omega) ⟨kNew, ix, 0, []⟩ (.slice none 0 0) ⟨_, _, rfl, Nat.zero_le _, Or.inl rfl⟩
  have HR : Hid ((Builtin.append_ #[41, 41] 41 #[.slice a3 m3 n3, .slice (some ⟨W9.heap.size, 0, none⟩) 1 1]).run Tryz.prog (W9.alloc (.cells #[.string ⟨#[110, 101, 119]⟩, .int .i64 ix, .int .i64 0, .slice none 0 0] 60)) = .ok (.slice xa xn xc) w7) := hr0'
  have HS7 : Hid (Rp (w7.setCell ⟨w.heap.size, 2, none⟩ (.slice xa xn xc)) B w.heap.size { P with stmts := P.stmts ++ [⟨kNew, ix, 0, []⟩] } (.slice a1 m1 n1) (.slice a2 m2 n2) (.slice xa xn xc) ps (qs ++ [.slice none 0 0]) ∧ Below B w (w7.setCell ⟨w.heap.size, 2, none⟩ (.slice xa xn xc)) ∧ KP w (w7.setCell ⟨w.heap.size, 2, none⟩ (.slice xa xn xc))) := ⟨hSt, (hB9w.mono HBW.out.2).trans hBe, kp_set (kp_kept hB9w hkp (by decide)) (Nat.le_refl _)⟩
  have HZ7 : Hid ((w7.setCell ⟨w.heap.size, 2, none⟩ (.slice xa xn xc)).heap[w.heap.size + 1]? = some zero3) := by
    show _ = _
    rw [other_block (by omega)]; exact hkp _ _ _ _ (block_keep hB9 HZB.out) (by decide)
  have HQ : Hid (lineQ P l = { P with stmts := P.stmts ++ [⟨kNew, ix, 0, []⟩] }) := by show _ = _; rw [HQ1.out, hzs]; rfl
  obtain ⟨j0, j1, j2⟩ := (HST.out.below hB9).cells
  have s0 : W9.cell? ⟨W.heap.size, 0, none⟩ = some (.string ⟨#[110, 101, 119]⟩) := by rw [Lib.cell_of_heap hK9]; rfl
  have s1 : W9.cell? ⟨W.heap.size, 1, none⟩ = some (.int .i64 ix) := by rw [Lib.cell_of_heap hK9]; rfl
  have s2 : W9.cell? ⟨W.heap.size, 2, none⟩ = some (.int .i64 0) := by rw [Lib.cell_of_heap hK9]; rfl
  have s3 : W9.cell? ⟨W.heap.size, 3, none⟩ = some (.slice none 0 0) := by rw [Lib.cell_of_heap hK9]; rfl
  clear hr0' hSt hBe hkp hIO hzs hix hown HOWN hB9 hB9w hK9 HQ1 HER1 hcn hgb c0 c1 c2 z0 z1 z2 y0 y1 y2
  go_upto_region 72 with fail
  rw [← hW9]
  clear hW9
  go_upto_region 73 with (at_builtin; refine Lib.wpList_append_run _ rfl _ _ _ _ rfl _ _ rfl rfl _ _ HR.out ?_)
  go_upto_region 74 with fail
  obtain ⟨W7, hW7⟩ : ∃ W7, W7 = w7.setCell ⟨w.heap.size, 2, none⟩ (.slice xa xn xc) := ⟨_, rfl⟩
  rw [← hW7] at HS7 HZ7 ⊢
  clear hW7
  obtain ⟨k0, k1, k2⟩ := HS7.out.1.cells
  have z0 : W7.cell? ⟨w.heap.size + 1, 0, none⟩ = some (.slice none 0 0) := by rw [Lib.cell_of_heap HZ7.out]; rfl
  have z1 : W7.cell? ⟨w.heap.size + 1, 1, none⟩ = some (.slice none 0 0) := by rw [Lib.cell_of_heap HZ7.out]; rfl
  have z2 : W7.cell? ⟨w.heap.size + 1, 2, none⟩ = some (.slice none 0 0) := by rw [Lib.cell_of_heap HZ7.out]; rfl
  have y0 := frozen_of_block HZ7.out 0
  have y1 := frozen_of_block HZ7.out 1
  have y2 := frozen_of_block HZ7.out 2
  go_wp2_with fail
  obtain ⟨r0, r1, r2⟩ := res_cells (HZ7.out) (.slice a1 m1 n1) (.slice a2 m2 n2) (.slice xa xn xc)
  refine bodyPost_ret (v := .tuple #[.agg #[.slice a1 m1 n1, .slice a2 m2 n2, .slice xa xn xc], .int .i64 2, .int .i64 0]) (by simp [results, Tryz.results80, go_sem, r0, r1, r2]) rfl ?_
  exact ⟨_, _, _, _, _, _, _, _, _, by rw [HAT.out, HER.out], fun _ => ⟨_, _, _, by rw [HQ.out]; exact HS7.out.1.set3 HZ7.out (by omega) _ _ _⟩, line_good HBW.out.2 HS7.out.2 _ _ _⟩
end Go.Proofs.YtakmmpbkojhmhaaGreatDoor

/-
  The document's readLine: lines of statements: functions without a name.
-/
namespace Go.Proofs.YtakmmpbkojhmhaaGreatDoor
open Go.RowKit Go.Extern.Stop Go.Stop Go.Extern


set_option maxRecDepth 100000 in
set_option maxHeartbeats 8000000 in
theorem line_fun0 {B : Nat} {P : ProgD} {v1 v2 v3 : Value} {ps qs : List Value} (l : Bs) (w : World) (hst : Rq w B P v1 v2 v3 ps qs) (hz : l.length ≤ 50000) (hS : SmallP P) (hv : Lib.hasPrefix l kv4 = false) (hp : Lib.hasPrefix l kf3 = false) (hyes : (Lib.cut l eqs).2.2 = true) (x y : Bs) (hx : (Lib.cut l eqs).1 = x) (hy : (Lib.cut l eqs).2.1 = y) (g1 : Lib.hasPrefix x [42] = false) (g2 : (y == kNew) = false) (g3 : Lib.hasPrefix y [38] = false) (g4 : Lib.hasPrefix y [42] = false) (g5 : Lib.hasPrefix y kf3 = true) (hnm : isNm (y.drop 3) = false) :
    Calls Tryz.prog 80 #[.agg #[v1, v2, v3], .string (S l)] w fun e w' => LinePost B w w' P l e := by
  obtain ⟨a1, n1, rfl⟩ := owns_form hst.o1
  obtain ⟨a2, n2, rfl⟩ := owns_form hst.o2
  obtain ⟨a3, n3, rfl⟩ := owns_form hst.o3
  obtain ⟨m1, hm1⟩ : ∃ m, m = P.vars.length := ⟨_, rfl⟩
  obtain ⟨m2, hm2⟩ : ∃ m, m = P.funs.length := ⟨_, rfl⟩
  obtain ⟨m3, hm3⟩ : ∃ m, m = P.stmts.length := ⟨_, rfl⟩
  rw [← hm1, ← hm2, ← hm3] at hst ⊢
  have HMM : Hid (m1 = P.vars.length ∧ m2 = P.funs.length ∧ m3 = P.stmts.length) := ⟨hm1, hm2, hm3⟩
  have HSM : Hid (SmallP P) := hS
  obtain ⟨s, hs⟩ : ∃ s, s = S l := ⟨_, rfl⟩
  have hsl : s.data.toList = l := by rw [hs, S_data]
  have hsz : s.size = l.length := by rw [hs, S_size]
  have hsz2 : s.size ≤ 100000 := by omega
  rw [← hs]
  obtain ⟨W, hW⟩ : ∃ W, W = (w.alloc (.cells #[.slice a1 m1 n1, .slice a2 m2 n2, .slice a3 m3 n3] 43)).alloc zero3 := ⟨_, rfl⟩
  have hBW0 : Below w.heap.size w W := by rw [hW]; exact (below1 w _).alloc (by simp) _
  have HBW : Hid (Below w.heap.size w W ∧ B ≤ w.heap.size) := ⟨hBW0, hst.size⟩
  have HST : Hid (Rp W B w.heap.size P (.slice a1 m1 n1) (.slice a2 m2 n2) (.slice a3 m3 n3) ps qs) := by
    show Rp _ _ _ _ _ _ _ _ _
    rw [hW]; exact hst.rebox.below (below1 _ _)
  have HZB : Hid (W.heap[w.heap.size + 1]? = some zero3) := by
    show _ = _
    rw [hW]
    have := heap_new (w.alloc (.cells #[.slice a1 m1 n1, .slice a2 m2 n2, .slice a3 m3 n3] 43)) zero3
    simpa using this
  obtain ⟨c0, c1, c2⟩ := HST.out.cells
  have f0 := HST.out.frz 0
  have f1 := HST.out.frz 1
  have f2 := HST.out.frz 2
  have z0 : W.cell? ⟨w.heap.size + 1, 0, none⟩ = some (.slice none 0 0) := by rw [Lib.cell_of_heap HZB.out]; rfl
  have z1 : W.cell? ⟨w.heap.size + 1, 1, none⟩ = some (.slice none 0 0) := by rw [Lib.cell_of_heap HZB.out]; rfl
  have z2 : W.cell? ⟨w.heap.size + 1, 2, none⟩ = some (.slice none 0 0) := by rw [Lib.cell_of_heap HZB.out]; rfl
  have y0 := frozen_of_block HZB.out 0
  have y1 := frozen_of_block HZB.out 1
  have y2 := frozen_of_block HZB.out 2
  have K1 : Hid (∀ wx, Calls Tryz.prog 115 #[.string s, .string ⟨#[118, 97, 114, 32]⟩] wx fun e w' => e = .returned (.bool false) ∧ w' = wx) := fun wx => by
    have := refStarts_any l [118, 97, 114, 32] wx
    rw [← hs] at this
    rw [show Lib.hasPrefix l [118, 97, 114, 32] = false from hv] at this
    exact this
  have K2 : Hid (∀ wx, Calls Tryz.prog 115 #[.string s, .string ⟨#[102, 110, 32]⟩] wx fun e w' => e = .returned (.bool false) ∧ w' = wx) := fun wx => by
    have := refStarts_any l [102, 110, 32] wx
    rw [← hs] at this
    rw [show Lib.hasPrefix l [102, 110, 32] = false from hp] at this
    exact this
  have HAT : Hid (lineAt l = 2) := by show _ = _; unfold lineAt; rw [if_neg (by rw [hv]; decide), if_neg (by rw [hp]; decide)]
  have hER : lineEr P l = stmtEr P l := by unfold lineEr; rw [if_neg (by rw [hv]; decide), if_neg (by rw [hp]; decide)]
  have hQ : lineQ P l = stmtQ P l := by unfold lineQ; rw [if_neg (by rw [hv]; decide), if_neg (by rw [hp]; decide)]
  have hxk : ∀ k, k ≤ s.size → s.extract k s.size = S (l.drop k) := fun k hk => by rw [extract_S, hsl, List.take_of_length_le]; simp; omega
  obtain ⟨i, hil, hcut, hat, hbe⟩ := cut_found l hyes
  have K3 : Hid (∀ wx k, k < i → Calls Tryz.prog 115 #[.string (s.extract k s.size), .string ⟨#[32, 61, 32]⟩] wx fun e w' => e = .returned (.bool false) ∧ w' = wx) := fun wx k hk => by
    rw [hxk k (by omega), ← hbe k hk]
    exact refStarts_any (l.drop k) eqs wx
  have K4 : Hid (∀ wx, Calls Tryz.prog 115 #[.string (s.extract i s.size), .string ⟨#[32, 61, 32]⟩] wx fun e w' => e = .returned (.bool true) ∧ w' = wx) := fun wx => by
    rw [hxk i (by omega), ← hat]
    exact refStarts_any (l.drop i) eqs wx
  have hx' : x = l.take i := by rw [← hx, hcut]
  have hy' : y = l.drop (i + 3) := by rw [← hy, hcut]
  obtain ⟨bx, hbx⟩ : ∃ b, b = S x := ⟨_, rfl⟩
  obtain ⟨bY, hbY⟩ : ∃ b, b = S y := ⟨_, rfl⟩
  have HXB : Hid (s.extract 0 i = bx ∧ s.extract (i + 3) s.size = bY) := ⟨by rw [extract_S, hsl, hbx, hx']; simp, by rw [hxk (i + 3) (by omega), hbY, hy']⟩
  have lx : x.length ≤ 50000 := by rw [hx']; simp; omega
  have ly : y.length ≤ 50000 := by rw [hy']; simp; omega
  have hbxz : bx.size = x.length := by rw [hbx, S_size]
  have hbYz : bY.size = y.length := by rw [hbY, S_size]
  have hbx5 : bx.size ≤ 50000 := by omega
  have hbY5 : bY.size ≤ 50000 := by omega
  have hi3 : i + 3 ≤ s.size := by omega
  have hii : (i : Int) + 3 ≤ s.size := by omega
  have hin : ((i : Int) == (s.size : Int)) = false := beq_eq_false_iff_ne.2 (by omega)
  have K5 : Hid (∀ wx, Calls Tryz.prog 115 #[.string bx, .string ⟨#[42]⟩] wx fun e w' => e = .returned (.bool false) ∧ w' = wx) := fun wx => by
    have := refStarts_any x [42] wx
    rw [← hbx, show Lib.hasPrefix x [42] = false from g1] at this
    exact this
  have hyn : (bY.toList == [110, 101, 119]) = false := by rw [hbY, S_toList]; exact g2
  have K6 : Hid (∀ wx, Calls Tryz.prog 115 #[.string bY, .string ⟨#[38]⟩] wx fun e w' => e = .returned (.bool false) ∧ w' = wx) := fun wx => by
    have := refStarts_any y [38] wx
    rw [← hbY, show Lib.hasPrefix y [38] = false from g3] at this
    exact this
  have K7 : Hid (∀ wx, Calls Tryz.prog 115 #[.string bY, .string ⟨#[42]⟩] wx fun e w' => e = .returned (.bool false) ∧ w' = wx) := fun wx => by
    have := refStarts_any y [42] wx
    rw [← hbY, show Lib.hasPrefix y [42] = false from g4] at this
    exact this
  have K8 : Hid (∀ wx, Calls Tryz.prog 115 #[.string bY, .string ⟨#[102, 110, 32]⟩] wx fun e w' => e = .returned (.bool true) ∧ w' = wx) := fun wx => by
    have := refStarts_any y [102, 110, 32] wx
    rw [← hbY, show Lib.hasPrefix y [102, 110, 32] = true from g5] at this
    exact this
  have hp3 : 3 ≤ y.length := pre_size g5
  have hp3i : (3 : Int) ≤ bY.size := by omega
  have HE3 : Hid (bY.extract 3 bY.size = S (y.drop 3)) := by
    show _ = _
    rw [extract_S, hbY, S_data, List.take_of_length_le]; rw [S_size]; simp
  have K9 : Hid (∀ wx, Calls Tryz.prog 61 #[.string (bY.extract 3 bY.size)] wx fun e w' => e = .returned (.bool false) ∧ w' = wx) := fun wx => by
    rw [HE3.out, ← hnm]; exact refName_any (y.drop 3) wx (by simp only [List.length_drop]; omega)
  have HER : Hid (lineEr P l = 1) := by
    show _ = _
    rw [hER]; unfold stmtEr sentN
    rw [hyes, hx, hy, g1, g2, g3, g4, g5, hnm]; rfl
  have HWB : Hid (w.heap.size ≤ W.heap.size) := HBW.out.1.size
  clear g1 g2 g3 g4 g5 hp3 hnm
  clear hER hQ hxk hv hp hyes hcut hat hbe hil hx hy hx' hy' lx ly hbxz hbYz hbx hbY
  clear hst hm1 hm2 hm3 hS hs hsl hsz hz hBW0
  go_enter Tryz.func80, Tryz.ntmps80
  go_wp2_with fail
  rw [← hW]
  clear hW
  refine (K1.out _).mono ?_
  rintro e wq ⟨rfl, hwq⟩
  obtain rfl := hwq.symm
  clear hwq K1
  go_wp2_with fail
  refine (K2.out _).mono ?_
  rintro e wq ⟨rfl, hwq⟩
  obtain rfl := hwq.symm
  clear hwq K2
  go_wp2_with fail
  go_loop [18] (fun t => ∃ k : Nat, k ≤ i ∧ t = .int .i64 k) (fun t => (i - intOf t).toNat)
  case atStart => exact ⟨0, Nat.zero_le _, rfl⟩
  case round =>
  obtain ⟨k, hk, rfl⟩ := hrel
  by_cases hlt : k < i
  · have hki : (k : Int) ≤ s.size := by omega
    have hki2 : (k : Int) < s.size := by omega
    go_wp2_with (go_at_call 115; refine (K3.out _ k hlt).mono ?_; rintro e wq ⟨rfl, hwq⟩; obtain rfl := hwq.symm; clear hwq)
    go_round
    case rel => exact ⟨k + 1, by omega, by go_num⟩
    case measure => simp [intOf]; omega
  obtain rfl : k = i := by omega
  have hki : (k : Int) ≤ s.size := by omega
  have hki2 : (k : Int) < s.size := by omega
  clear K3 hlt hk
  go_upto_region 26 with (go_at_call 115; refine (K4.out _).mono ?_; rintro e wq ⟨rfl, hwq⟩; obtain rfl := hwq.symm; clear hwq)
  go_upto_region 30 with fail
  rw [HXB.out.1, HXB.out.2]
  go_wp2_with fail
  refine (K5.out _).mono ?_
  rintro e wq ⟨rfl, hwq⟩
  obtain rfl := hwq.symm
  clear hwq K5
  go_wp2_with fail
  refine (K6.out _).mono ?_
  rintro e wq ⟨rfl, hwq⟩
  obtain rfl := hwq.symm
  clear hwq K6
  go_wp2_with fail
  refine (K7.out _).mono ?_
  rintro e wq ⟨rfl, hwq⟩
  obtain rfl := hwq.symm
  clear hwq K7
  go_wp2_with fail
  refine (K8.out _).mono ?_
  rintro e wq ⟨rfl, hwq⟩
  obtain rfl := hwq.symm
  clear hwq K8
  go_wp2_with fail
  refine (K9.out _).mono ?_
  rintro e wq ⟨rfl, hwq⟩
  obtain rfl := hwq.symm
  clear hwq K9
  obtain ⟨W2, hW2⟩ : ∃ W2, W2 = ((W.alloc (stB ⟨#[102, 117, 110]⟩ 0 0 (.slice none 0 0))).alloc (.cells #[.string bx, .string bY] 9)).alloc (.cells #[.string bx] 9) := ⟨_, rfl⟩
  have hb2 : Below W.heap.size W W2 := by rw [hW2]; repeat (with_reducible first | exact Below.refl _ _ | refine below_au ?_ _)
  rw [← hW2]
  clear hW2
  replace c0 := cell_keep hb2 c0
  replace c1 := cell_keep hb2 c1
  replace c2 := cell_keep hb2 c2
  have HZW : Hid (W2.heap[w.heap.size + 1]? = some zero3) := block_keep hb2 HZB.out
  replace z0 := cell_keep hb2 z0
  replace z1 := cell_keep hb2 z1
  replace z2 := cell_keep hb2 z2
  replace y0 := frozen_of_block HZW.out 0
  replace y1 := frozen_of_block HZW.out 1
  replace y2 := frozen_of_block HZW.out 2
  have HB8w : Hid (Below w.heap.size w W2) := HBW.out.1.trans (hb2.mono HWB.out)
  clear hb2 f0 f1 f2
  go_wp2_with fail
  have hres := res_cells (HZW.out) (.slice a1 m1 n1) (.slice a2 m2 n2) (.slice a3 m3 n3)
  obtain ⟨r0, r1, r2⟩ := hres
  refine bodyPost_ret (v := .tuple #[.agg #[.slice a1 m1 n1, .slice a2 m2 n2, .slice a3 m3 n3], .int .i64 2, .int .i64 1]) (by simp [results, Tryz.results80, go_sem, r0, r1, r2]) rfl ?_
  exact ⟨a1, m1, n1, a2, m2, n2, a3, m3, n3, by rw [HAT.out, HER.out], fun q => absurd (HER.out.symm.trans q) (by decide), line_bad HBW.out.2 HB8w.out _ _ _⟩
end Go.Proofs.YtakmmpbkojhmhaaGreatDoor

/-
  The document's readLine: lines of statements: functions.
-/
namespace Go.Proofs.YtakmmpbkojhmhaaGreatDoor
open Go.RowKit Go.Extern.Stop Go.Stop Go.Extern

theorem idx_snoc (l : List Bs) (x R : Bs) : idx (l ++ [x]) R = if idx l R = -1 then (if x = R then (l.length : Int) else -1) else idx l R := by
  have key : ∀ (l : List Bs) (i : Nat), idxFrom i (l ++ [x]) R = if idxFrom i l R = -1 then (if x = R then ((i + l.length : Nat) : Int) else -1) else idxFrom i l R := by
    intro l
    induction l with
    | nil => intro i; rfl
    | cons z r ih =>
      intro i
      rw [List.cons_append]
      unfold idxFrom
      by_cases h : z = R
      · rw [if_pos h, if_pos h, if_neg (by omega)]
      · rw [if_neg h, if_neg h, ih (i + 1), List.length_cons, show i + 1 + r.length = i + (r.length + 1) by omega]
  have := key l 0
  rw [Nat.zero_add] at this
  exact this
theorem idx_take (l : List Bs) (R : Bs) (k : Nat) (hk : k < l.length) : idx (l.take (k + 1)) R = if idx (l.take k) R = -1 then (if l.getD k [] = R then (k : Int) else -1) else idx (l.take k) R := by
  rw [take_snoc l [] k hk, idx_snoc, List.length_take, Nat.min_eq_left (by omega)]
theorem stmt_er_fun {P : ProgD} {l x y : Bs} (h : (Lib.cut l eqs).2.2 = true) (hx : (Lib.cut l eqs).1 = x) (hy : (Lib.cut l eqs).2.1 = y) (hN : sentN x y = some [x]) (hK : sentK x y = kFun) : stmtEr P l = if lookE P.vars [x] = 0 then (if funY P y = -1 then 6 else 0) else lookE P.vars [x] := by
  unfold stmtEr
  rw [h, hx, hy, hN, hK]
  have e : (kFun == kFun) = true := rfl
  simp only [Bool.not_true, Bool.false_eq_true, if_false, e, Bool.true_and, beq_iff_eq]
theorem stmt_q_fun {P : ProgD} {l x y : Bs} (hx : (Lib.cut l eqs).1 = x) (hy : (Lib.cut l eqs).2.1 = y) (hK : sentK x y = kFun) : stmtQ P l = { P with stmts := P.stmts ++ [⟨kFun, idx P.vars x, funY P y, []⟩] } := by
  unfold stmtQ stmtOf
  rw [hx, hy, hK]
  rfl
theorem fname_at (P : ProgD) (k : Nat) (hk : k < P.funs.length) : (fnames P).getD k [] = (P.funs.getD k default).name := by
  unfold fnames
  simp [List.getD, hk]
theorem keepst {w : World} {b : Nat} {o : Obj} {n : Nat} (h : w.heap[b]? = some o) : (w.drewN n).heap[b]? = some o := block_keep (below_drewN (Below.refl _ w) n) h

set_option maxRecDepth 100000 in
set_option maxHeartbeats 8000000 in
theorem line_fun1 {B : Nat} {P : ProgD} {v1 v2 v3 : Value} {ps qs : List Value} (l : Bs) (w : World) (hst : Rq w B P v1 v2 v3 ps qs) (hz : l.length ≤ 50000) (hS : SmallP P) (hv : Lib.hasPrefix l kv4 = false) (hp : Lib.hasPrefix l kf3 = false) (hyes : (Lib.cut l eqs).2.2 = true) (x y : Bs) (hx : (Lib.cut l eqs).1 = x) (hy : (Lib.cut l eqs).2.1 = y) (g1 : Lib.hasPrefix x [42] = false) (g2 : (y == kNew) = false) (g3 : Lib.hasPrefix y [38] = false) (g4 : Lib.hasPrefix y [42] = false) (g5 : Lib.hasPrefix y kf3 = true) (hnm : isNm (y.drop 3) = true) (hN : sentN x y = some [x]) (hK : sentK x y = kFun) :
    Calls Tryz.prog 80 #[.agg #[v1, v2, v3], .string (S l)] w fun e w' => LinePost B w w' P l e := by
  obtain ⟨a1, n1, rfl⟩ := owns_form hst.o1
  obtain ⟨a2, n2, rfl⟩ := owns_form hst.o2
  obtain ⟨a3, n3, rfl⟩ := owns_form hst.o3
  obtain ⟨m1, hm1⟩ : ∃ m, m = P.vars.length := ⟨_, rfl⟩
  obtain ⟨m2, hm2⟩ : ∃ m, m = P.funs.length := ⟨_, rfl⟩
  obtain ⟨m3, hm3⟩ : ∃ m, m = P.stmts.length := ⟨_, rfl⟩
  rw [← hm1, ← hm2, ← hm3] at hst ⊢
  have HMM : Hid (m1 = P.vars.length ∧ m2 = P.funs.length ∧ m3 = P.stmts.length) := ⟨hm1, hm2, hm3⟩
  have HSM : Hid (SmallP P) := hS
  obtain ⟨s, hs⟩ : ∃ s, s = S l := ⟨_, rfl⟩
  have hsl : s.data.toList = l := by rw [hs, S_data]
  have hsz : s.size = l.length := by rw [hs, S_size]
  have hsz2 : s.size ≤ 100000 := by omega
  rw [← hs]
  obtain ⟨W, hW⟩ : ∃ W, W = (w.alloc (.cells #[.slice a1 m1 n1, .slice a2 m2 n2, .slice a3 m3 n3] 43)).alloc zero3 := ⟨_, rfl⟩
  have hBW0 : Below w.heap.size w W := by rw [hW]; exact (below1 w _).alloc (by simp) _
  have HBW : Hid (Below w.heap.size w W ∧ B ≤ w.heap.size) := ⟨hBW0, hst.size⟩
  have HST : Hid (Rp W B w.heap.size P (.slice a1 m1 n1) (.slice a2 m2 n2) (.slice a3 m3 n3) ps qs) := by
    show Rp _ _ _ _ _ _ _ _ _
    rw [hW]; exact hst.rebox.below (below1 _ _)
  have HZB : Hid (W.heap[w.heap.size + 1]? = some zero3) := by
    show _ = _
    rw [hW]
    have := heap_new (w.alloc (.cells #[.slice a1 m1 n1, .slice a2 m2 n2, .slice a3 m3 n3] 43)) zero3
    simpa using this
  obtain ⟨c0, c1, c2⟩ := HST.out.cells
  have f0 := HST.out.frz 0
  have f1 := HST.out.frz 1
  have f2 := HST.out.frz 2
  have z0 : W.cell? ⟨w.heap.size + 1, 0, none⟩ = some (.slice none 0 0) := by rw [Lib.cell_of_heap HZB.out]; rfl
  have z1 : W.cell? ⟨w.heap.size + 1, 1, none⟩ = some (.slice none 0 0) := by rw [Lib.cell_of_heap HZB.out]; rfl
  have z2 : W.cell? ⟨w.heap.size + 1, 2, none⟩ = some (.slice none 0 0) := by rw [Lib.cell_of_heap HZB.out]; rfl
  have y0 := frozen_of_block HZB.out 0
  have y1 := frozen_of_block HZB.out 1
  have y2 := frozen_of_block HZB.out 2
  have K1 : Hid (∀ wx, Calls Tryz.prog 115 #[.string s, .string ⟨#[118, 97, 114, 32]⟩] wx fun e w' => e = .returned (.bool false) ∧ w' = wx) := fun wx => by
    have := refStarts_any l [118, 97, 114, 32] wx
    rw [← hs] at this
    rw [show Lib.hasPrefix l [118, 97, 114, 32] = false from hv] at this
    exact this
  have K2 : Hid (∀ wx, Calls Tryz.prog 115 #[.string s, .string ⟨#[102, 110, 32]⟩] wx fun e w' => e = .returned (.bool false) ∧ w' = wx) := fun wx => by
    have := refStarts_any l [102, 110, 32] wx
    rw [← hs] at this
    rw [show Lib.hasPrefix l [102, 110, 32] = false from hp] at this
    exact this
  have HAT : Hid (lineAt l = 2) := by show _ = _; unfold lineAt; rw [if_neg (by rw [hv]; decide), if_neg (by rw [hp]; decide)]
  have hER : lineEr P l = stmtEr P l := by unfold lineEr; rw [if_neg (by rw [hv]; decide), if_neg (by rw [hp]; decide)]
  have hQ : lineQ P l = stmtQ P l := by unfold lineQ; rw [if_neg (by rw [hv]; decide), if_neg (by rw [hp]; decide)]
  have hxk : ∀ k, k ≤ s.size → s.extract k s.size = S (l.drop k) := fun k hk => by rw [extract_S, hsl, List.take_of_length_le]; simp; omega
  obtain ⟨i, hil, hcut, hat, hbe⟩ := cut_found l hyes
  have K3 : Hid (∀ wx k, k < i → Calls Tryz.prog 115 #[.string (s.extract k s.size), .string ⟨#[32, 61, 32]⟩] wx fun e w' => e = .returned (.bool false) ∧ w' = wx) := fun wx k hk => by
    rw [hxk k (by omega), ← hbe k hk]
    exact refStarts_any (l.drop k) eqs wx
  have K4 : Hid (∀ wx, Calls Tryz.prog 115 #[.string (s.extract i s.size), .string ⟨#[32, 61, 32]⟩] wx fun e w' => e = .returned (.bool true) ∧ w' = wx) := fun wx => by
    rw [hxk i (by omega), ← hat]
    exact refStarts_any (l.drop i) eqs wx
  have hx' : x = l.take i := by rw [← hx, hcut]
  have hy' : y = l.drop (i + 3) := by rw [← hy, hcut]
  obtain ⟨bx, hbx⟩ : ∃ b, b = S x := ⟨_, rfl⟩
  obtain ⟨bY, hbY⟩ : ∃ b, b = S y := ⟨_, rfl⟩
  have HXB : Hid (s.extract 0 i = bx ∧ s.extract (i + 3) s.size = bY) := ⟨by rw [extract_S, hsl, hbx, hx']; simp, by rw [hxk (i + 3) (by omega), hbY, hy']⟩
  have lx : x.length ≤ 50000 := by rw [hx']; simp; omega
  have ly : y.length ≤ 50000 := by rw [hy']; simp; omega
  have hbxz : bx.size = x.length := by rw [hbx, S_size]
  have hbYz : bY.size = y.length := by rw [hbY, S_size]
  have hbx5 : bx.size ≤ 50000 := by omega
  have hbY5 : bY.size ≤ 50000 := by omega
  have hi3 : i + 3 ≤ s.size := by omega
  have hii : (i : Int) + 3 ≤ s.size := by omega
  have hin : ((i : Int) == (s.size : Int)) = false := beq_eq_false_iff_ne.2 (by omega)
  have K5 : Hid (∀ wx, Calls Tryz.prog 115 #[.string bx, .string ⟨#[42]⟩] wx fun e w' => e = .returned (.bool false) ∧ w' = wx) := fun wx => by
    have := refStarts_any x [42] wx
    rw [← hbx, show Lib.hasPrefix x [42] = false from g1] at this
    exact this
  have hyn : (bY.toList == [110, 101, 119]) = false := by rw [hbY, S_toList]; exact g2
  have K6 : Hid (∀ wx, Calls Tryz.prog 115 #[.string bY, .string ⟨#[38]⟩] wx fun e w' => e = .returned (.bool false) ∧ w' = wx) := fun wx => by
    have := refStarts_any y [38] wx
    rw [← hbY, show Lib.hasPrefix y [38] = false from g3] at this
    exact this
  have K7 : Hid (∀ wx, Calls Tryz.prog 115 #[.string bY, .string ⟨#[42]⟩] wx fun e w' => e = .returned (.bool false) ∧ w' = wx) := fun wx => by
    have := refStarts_any y [42] wx
    rw [← hbY, show Lib.hasPrefix y [42] = false from g4] at this
    exact this
  have K8 : Hid (∀ wx, Calls Tryz.prog 115 #[.string bY, .string ⟨#[102, 110, 32]⟩] wx fun e w' => e = .returned (.bool true) ∧ w' = wx) := fun wx => by
    have := refStarts_any y [102, 110, 32] wx
    rw [← hbY, show Lib.hasPrefix y [102, 110, 32] = true from g5] at this
    exact this
  have hp3 : 3 ≤ y.length := pre_size g5
  have hp3i : (3 : Int) ≤ bY.size := by omega
  have HE3 : Hid (bY.extract 3 bY.size = S (y.drop 3)) := by
    show _ = _
    rw [extract_S, hbY, S_data, List.take_of_length_le]; rw [S_size]; simp
  have K9 : Hid (∀ wx, Calls Tryz.prog 61 #[.string (bY.extract 3 bY.size)] wx fun e w' => e = .returned (.bool true) ∧ w' = wx) := fun wx => by
    rw [HE3.out, ← hnm]; exact refName_any (y.drop 3) wx (by simp only [List.length_drop]; omega)
  obtain ⟨E, hE⟩ : ∃ E, E = lookE P.vars [x] := ⟨_, rfl⟩
  have hEc := lookE_cases P.vars [x]
  rw [← hE] at hEc
  have KU : Hid (∀ W2 nv, Below W.heap.size W W2 → W2.heap[W.heap.size]? = some (stB ⟨#[102, 117, 110]⟩ 0 0 (.slice none 0 0)) → IsStrs W2 nv [x] → Calls Tryz.prog 117 #[.agg #[.slice a1 m1 n1, .slice a2 m2 n2, .slice a3 m3 n3], nv] W2 fun e w' => ∃ v', e = .returned (.tuple #[v', .int .i64 E]) ∧ (E = 0 → w'.ownsRow (W.heap.size + 1) 3 1 v' 1 (([x].map (idx P.vars)).map intV)) ∧ Below W.heap.size W w' ∧ w'.heap[W.heap.size]? = some (stB ⟨#[102, 117, 110]⟩ 0 0 (.slice none 0 0))) := fun W2 nv hb hk hn => by
    rw [hE]
    refine (refLookUp_any P [x] nv _ _ _ W2 hS (by simp; try omega) (fun q hq => by
      simp only [List.mem_cons, List.not_mem_nil, or_false] at hq
      subst hq; omega) (HST.out.below hb).isProg hn).mono fun e w' h => ?_
    obtain ⟨v', he, ho, hb'⟩ := h
    exact ⟨v', he, fun q => owns_mono (ho q) (Array.getElem?_eq_some_iff.1 hk).1, hb.trans (hb'.mono hb.size), block_keep hb' hk⟩
  obtain ⟨Z, hZ⟩ : ∃ Z, Z = funY P y := ⟨_, rfl⟩
  have HER1 : Hid (lineEr P l = if E = 0 then (if Z = -1 then 6 else 0) else E) := by show _ = _; rw [hER, stmt_er_fun hyes hx hy hN hK, hE, hZ]
  have HQ1 : Hid (lineQ P l = { P with stmts := P.stmts ++ [⟨kFun, idx P.vars x, Z, []⟩] }) := by show _ = _; rw [hQ, stmt_q_fun hx hy hK, hZ]
  have HWB : Hid (w.heap.size ≤ W.heap.size) := HBW.out.1.size
  have HS12 : Hid (bx = S x ∧ bY = S y) := ⟨hbx, hbY⟩
  have HZZ : Hid (Z = idx (fnames P) (y.drop 3) ∧ -1 ≤ Z) := ⟨hZ, by rw [hZ]; exact idx_ge _ _⟩
  clear hN hK hE g1 g2 g3 g4 g5 hnm hp3 hZ
  clear hER hQ hxk hv hp hyes hcut hat hbe hil hx hy hx' hy' lx ly hbxz hbYz hbx hbY
  clear hst hm1 hm2 hm3 hS hs hsl hsz hz hBW0
  go_enter Tryz.func80, Tryz.ntmps80
  go_wp2_with fail
  rw [← hW]
  clear hW
  refine (K1.out _).mono ?_
  rintro e wq ⟨rfl, hwq⟩
  obtain rfl := hwq.symm
  clear hwq K1
  go_wp2_with fail
  refine (K2.out _).mono ?_
  rintro e wq ⟨rfl, hwq⟩
  obtain rfl := hwq.symm
  clear hwq K2
  go_wp2_with fail
  go_loop [18] (fun t => ∃ k : Nat, k ≤ i ∧ t = .int .i64 k) (fun t => (i - intOf t).toNat)
  case atStart => exact ⟨0, Nat.zero_le _, rfl⟩
  case round =>
  obtain ⟨k, hk, rfl⟩ := hrel
  by_cases hlt : k < i
  · have hki : (k : Int) ≤ s.size := by omega
    have hki2 : (k : Int) < s.size := by omega
    go_wp2_with (go_at_call 115; refine (K3.out _ k hlt).mono ?_; rintro e wq ⟨rfl, hwq⟩; obtain rfl := hwq.symm; clear hwq)
    go_round
    case rel => exact ⟨k + 1, by omega, by go_num⟩
    case measure => simp [intOf]; omega
  obtain rfl : k = i := by omega
  have hki : (k : Int) ≤ s.size := by omega
  have hki2 : (k : Int) < s.size := by omega
  clear K3 hlt hk
  go_upto_region 26 with (go_at_call 115; refine (K4.out _).mono ?_; rintro e wq ⟨rfl, hwq⟩; obtain rfl := hwq.symm; clear hwq)
  go_upto_region 30 with fail
  rw [HXB.out.1, HXB.out.2]
  go_wp2_with fail
  refine (K5.out _).mono ?_
  rintro e wq ⟨rfl, hwq⟩
  obtain rfl := hwq.symm
  clear hwq K5
  go_wp2_with fail
  refine (K6.out _).mono ?_
  rintro e wq ⟨rfl, hwq⟩
  obtain rfl := hwq.symm
  clear hwq K6
  go_wp2_with fail
  refine (K7.out _).mono ?_
  rintro e wq ⟨rfl, hwq⟩
  obtain rfl := hwq.symm
  clear hwq K7
  go_wp2_with fail
  refine (K8.out _).mono ?_
  rintro e wq ⟨rfl, hwq⟩
  obtain rfl := hwq.symm
  clear hwq K8
  go_wp2_with fail
  refine (K9.out _).mono ?_
  rintro e wq ⟨rfl, hwq⟩
  obtain rfl := hwq.symm
  clear hwq K9
  go_upto_region 56 with fail
  obtain ⟨W2, hW2⟩ : ∃ W2, W2 = ((W.alloc (stB ⟨#[102, 117, 110]⟩ 0 0 (.slice none 0 0))).alloc (.cells #[.string bx, .string bY] 9)).alloc (.cells #[.string bx] 9) := ⟨_, rfl⟩
  have hb2 : Below W.heap.size W W2 := by rw [hW2]; repeat (with_reducible first | exact Below.refl _ _ | refine below_au ?_ _ | refine below_setu ?_ (Nat.le_refl _))
  have HB2 : Hid (Below W.heap.size W W2) := hb2
  have HK2 : Hid (W2.heap[W.heap.size]? = some (stB ⟨#[102, 117, 110]⟩ 0 0 (.slice none 0 0))) := by show _ = _; rw [hW2]; exact block_keep (below1 _ _) (block_keep (below1 _ _) (heap_new W _))
  have HN2 : Hid (IsStrs W2 (.slice (some ⟨W.heap.size + 1 + 1, 0, none⟩) 1 1) [x]) := by show IsStrs _ _ _; rw [hW2, HS12.out.1]; exact isStrs_new1 _ x _ (by simp)
  rw [← hW2]
  clear hW2
  replace c0 := cell_keep hb2 c0
  replace c1 := cell_keep hb2 c1
  replace c2 := cell_keep hb2 c2
  clear hb2
  go_wp2_with fail
  refine (KU.out W2 _ HB2.out HK2.out HN2.out).mono ?_
  clear HB2 HK2 HN2
  rintro e w8 ⟨v', rfl, hown, hb8, hk8⟩
  have HOWN : Hid (E = 0 → w8.ownsRow (W.heap.size + 1) 3 1 v' 1 (([x].map (idx P.vars)).map intV)) := hown
  have HB8 : Hid (Below W.heap.size W w8) := hb8
  have HB8w : Hid (Below w.heap.size w w8) := HBW.out.1.trans (hb8.mono HWB.out)
  have HZ8 : Hid (w8.heap[w.heap.size + 1]? = some zero3) := block_keep hb8 HZB.out
  have HK8 : Hid (w8.heap[W.heap.size]? = some (stB ⟨#[102, 117, 110]⟩ 0 0 (.slice none 0 0))) := hk8
  have HST8 : Hid (Rp w8 B w.heap.size P (.slice a1 m1 n1) (.slice a2 m2 n2) (.slice a3 m3 n3) ps qs) := HST.out.below hb8
  clear hown hb8 hk8 c0 c1 c2 z0 z1 z2 y0 y1 y2 f0 f1 f2 KU
  obtain ⟨c0, c1, c2⟩ := HST8.out.cells
  have z0 : w8.cell? ⟨w.heap.size + 1, 0, none⟩ = some (.slice none 0 0) := by rw [Lib.cell_of_heap HZ8.out]; rfl
  have z1 : w8.cell? ⟨w.heap.size + 1, 1, none⟩ = some (.slice none 0 0) := by rw [Lib.cell_of_heap HZ8.out]; rfl
  have z2 : w8.cell? ⟨w.heap.size + 1, 2, none⟩ = some (.slice none 0 0) := by rw [Lib.cell_of_heap HZ8.out]; rfl
  have y0 := frozen_of_block HZ8.out 0
  have y1 := frozen_of_block HZ8.out 1
  have y2 := frozen_of_block HZ8.out 2
  rcases hEc with rfl | rfl | rfl
  case inr.inl =>
    have HER : Hid (lineEr P l = 1) := HER1.out
    have HZW := HZ8
    go_wp2_with fail
    have hres := res_cells (HZW.out) (.slice a1 m1 n1) (.slice a2 m2 n2) (.slice a3 m3 n3)
    obtain ⟨r0, r1, r2⟩ := hres
    refine bodyPost_ret (v := .tuple #[.agg #[.slice a1 m1 n1, .slice a2 m2 n2, .slice a3 m3 n3], .int .i64 2, .int .i64 1]) (by simp [results, Tryz.results80, go_sem, r0, r1, r2]) rfl ?_
    exact ⟨a1, m1, n1, a2, m2, n2, a3, m3, n3, by rw [HAT.out, HER.out], fun q => absurd (HER.out.symm.trans q) (by decide), line_bad HBW.out.2 HB8w.out _ _ _⟩
  case inr.inr =>
    have HER : Hid (lineEr P l = 6) := HER1.out
    have HZW := HZ8
    go_wp2_with fail
    have hres := res_cells (HZW.out) (.slice a1 m1 n1) (.slice a2 m2 n2) (.slice a3 m3 n3)
    obtain ⟨r0, r1, r2⟩ := hres
    refine bodyPost_ret (v := .tuple #[.agg #[.slice a1 m1 n1, .slice a2 m2 n2, .slice a3 m3 n3], .int .i64 2, .int .i64 6]) (by simp [results, Tryz.results80, go_sem, r0, r1, r2]) rfl ?_
    exact ⟨a1, m1, n1, a2, m2, n2, a3, m3, n3, by rw [HAT.out, HER.out], fun q => absurd (HER.out.symm.trans q) (by decide), line_bad HBW.out.2 HB8w.out _ _ _⟩
  case inl =>
  have HER2 : Hid (lineEr P l = if Z = -1 then 6 else 0) := HER1.out
  have hown := HOWN.out rfl
  have t0 : w8.cell? ⟨W.heap.size, 0, none⟩ = some (.string ⟨#[102, 117, 110]⟩) := by rw [Lib.cell_of_heap HK8.out]; rfl
  have t1 : w8.cell? ⟨W.heap.size, 1, none⟩ = some (.int .i64 0) := by rw [Lib.cell_of_heap HK8.out]; rfl
  have t2 : w8.cell? ⟨W.heap.size, 2, none⟩ = some (.int .i64 0) := by rw [Lib.cell_of_heap HK8.out]; rfl
  have t3 : w8.cell? ⟨W.heap.size, 3, none⟩ = some (.slice none 0 0) := by rw [Lib.cell_of_heap HK8.out]; rfl
  have u1 := frozen_of_block HK8.out 1
  have u2 := frozen_of_block HK8.out 2
  have u3 := frozen_of_block HK8.out 3
  obtain ⟨ix, hix⟩ : ∃ z, z = idx P.vars x := ⟨_, rfl⟩
  have hzs : [x].map (idx P.vars) = [ix] := by rw [hix]; rfl
  rw [hzs] at hown
  obtain ⟨g, c, rfl, hcn, hIO⟩ := intsOwn_drop hown 1 (by omega) (by omega)
  have hgb : W.heap.size + 1 ≤ g := (hown.lt g rfl).1
  have e0 : w8.cell? ⟨g, 0, none⟩ = some (.int .i64 ix) := by
    obtain ⟨b, o, q1, q2⟩ := isInts_at (isCap_of_owns hown).1 0 (by simp)
    cases q1; exact q2
  have hne1 : g ≠ W.heap.size := by omega
  have HQ : Hid (lineQ P l = { P with stmts := P.stmts ++ [⟨kFun, ix, Z, []⟩] }) := by show _ = _; rw [HQ1.out, hix]
  obtain ⟨W8, hW8⟩ : ∃ W8, W8 = (w8.setCell ⟨W.heap.size, 1, none⟩ (.int .i64 ix)).setCell ⟨W.heap.size, 2, none⟩ (.int .i64 (-1)) := ⟨_, rfl⟩
  have HB9 : Hid (Below W.heap.size W W8) := by show Below _ _ _; rw [hW8]; exact below_setu (below_setu HB8.out (Nat.le_refl _)) (Nat.le_refl _)
  have HK9 : Hid (W8.heap[W.heap.size]? = some (stB ⟨#[102, 117, 110]⟩ ix (-1) (.slice none 0 0))) := by
    show _ = _
    rw [hW8]; exact st_set (st_set HK8.out _) _
  have hHM := HMM.out.2.1
  clear hIO hzs hix hown HOWN HQ1 HER1 hcn hgb c0 c1 c2 z0 z1 z2 y0 y1 y2 HST8 HZ8 HK8
  have hm2 : m2 ≤ 100000 := by rw [hHM]; exact HSM.out.2.1
  clear hHM
  go_upto_region 62 with fail
  rw [← hW8]
  clear hW8
  go_wp2_with fail
  clear t0 t1 t2 t3 u1 u2 u3 e0 hne1
  go_loopw [30] (fun t wr => ∃ (q : Nat) (z : Int), q ≤ m2 ∧ t = .int .i64 q ∧ z = idx ((fnames P).take q) (y.drop 3) ∧ wr.heap[W.heap.size]? = some (stB ⟨#[102, 117, 110]⟩ ix z (.slice none 0 0)) ∧ Below W.heap.size W wr) (fun t _ => (m2 - intOf t).toNat)
  case atStart => exact ⟨0, -1, Nat.zero_le _, rfl, rfl, HK9.out, HB9.out⟩
  case round =>
  obtain ⟨q, z, hq, rfl, hz, hk, hwr⟩ := hrel
  have hst := HST.out.below hwr
  obtain ⟨c0, c1, c2⟩ := hst.cells
  have t0 : wr.cell? ⟨W.heap.size, 0, none⟩ = some (.string ⟨#[102, 117, 110]⟩) := by rw [Lib.cell_of_heap hk]; rfl
  have t1 : wr.cell? ⟨W.heap.size, 1, none⟩ = some (.int .i64 ix) := by rw [Lib.cell_of_heap hk]; rfl
  have t2 : wr.cell? ⟨W.heap.size, 2, none⟩ = some (.int .i64 z) := by rw [Lib.cell_of_heap hk]; rfl
  have t3 : wr.cell? ⟨W.heap.size, 3, none⟩ = some (.slice none 0 0) := by rw [Lib.cell_of_heap hk]; rfl
  have u2 := frozen_of_block hk 2
  have HZI : Hid (z = idx ((fnames P).take q) (y.drop 3) ∧ -1 ≤ z) := ⟨hz, by rw [hz]; exact idx_ge _ _⟩
  have HK : Hid (wr.heap[W.heap.size]? = some (stB ⟨#[102, 117, 110]⟩ ix z (.slice none 0 0))) := hk
  have HSR : Hid (Rp wr B w.heap.size P (.slice a1 m1 n1) (.slice a2 m2 n2) (.slice a3 m3 n3) ps qs) := hst
  clear hz hk hst
  by_cases hlt : q < m2
  · have hql : q < P.funs.length := by rw [← HMM.out.2.1]; exact hlt
    obtain ⟨fa, fc, hfe, -, hf⟩ := HSR.out.isProg.funs
    obtain ⟨fb, fo, hfa, pv, nm, -, -, -⟩ := hf q hql
    obtain rfl : a2 = some ⟨fb, fo, none⟩ := by rw [← hfa]; exact (Value.slice.inj hfe).1
    obtain ⟨bn, hbn⟩ : ∃ b, b = S (P.funs.getD q default).name := ⟨_, rfl⟩
    rw [← hbn] at nm
    obtain ⟨D, hD⟩ : ∃ D, (bn.toList == (bY.extract 3 bY.size).toList) = D := ⟨_, rfl⟩
    have HDD : Hid (D = decide ((fnames P).getD q [] = y.drop 3)) := by
      show _ = _
      rw [← hD, fname_at P q hql, hbn, HE3.out, S_toList, S_toList, Bool.eq_iff_iff, beq_iff_eq, decide_eq_true_eq]
    have hstep := idx_take (fnames P) (y.drop 3) q (by unfold fnames; simpa using hql)
    rw [← HZI.out.1] at hstep
    have HSP : Hid (idx ((fnames P).take (q + 1)) (y.drop 3) = if z = -1 then (if (fnames P).getD q [] = y.drop 3 then (q : Int) else -1) else z) := hstep
    have hqi : (q : Int) < m2 := by omega
    clear hstep hql hfe hf hfa hbn
    cases D with
    | false =>
      have hne : ¬ (fnames P).getD q [] = y.drop 3 := by
        have := HDD.out
        simpa using this.symm
      have HN : Hid (z = idx ((fnames P).take (q + 1)) (y.drop 3)) := by
        show _ = _
        rw [HSP.out, if_neg hne]
        split
        · assumption
        · rfl
      clear hne
      go_wp2_with fail
      go_quiet (fail)
      go_wp2_with fail
      go_roundw
      case rel => exact ⟨q + 1, z, hlt, by go_num, HN.out, keepst HK.out, below_drewN hwr _⟩
      case measure => simp [intOf]; omega
    | true =>
      have heq : (fnames P).getD q [] = y.drop 3 := by
        have := HDD.out
        simpa using this.symm
      by_cases hz0 : z < 0
      · have HN : Hid ((q : Int) = idx ((fnames P).take (q + 1)) (y.drop 3)) := by
          show _ = _
          rw [HSP.out, if_pos heq, if_pos (by have := HZI.out.2; omega)]
        have hzd : decide (z < 0) = true := by simpa using hz0
        clear heq
        go_wp2_with fail
        go_quiet (fail)
        go_wp2_with fail
        go_roundw
        case rel => exact ⟨q + 1, (q : Int), hlt, by go_num, HN.out, st_set (keepst HK.out) _, below_setu (below_drewN hwr _) (Nat.le_refl _)⟩
        case measure => simp [intOf]; omega
      · have HN : Hid (z = idx ((fnames P).take (q + 1)) (y.drop 3)) := by
          show _ = _
          rw [HSP.out, if_neg (by omega)]
        have hzd : decide (z < 0) = false := by simpa using hz0
        clear heq
        go_wp2_with fail
        go_quiet (fail)
        go_wp2_with fail
        go_roundw
        case rel => exact ⟨q + 1, z, hlt, by go_num, HN.out, keepst HK.out, below_drewN hwr _⟩
        case measure => simp [intOf]; omega
  obtain rfl : m2 = q := by omega
  have hzZ : z = Z := by
    rw [HZI.out.1, HZZ.out.1, List.take_of_length_le]
    unfold fnames; simp [HMM.out.2.1]
  subst hzZ
  have HB9w : Hid (Below w.heap.size w wr) := HBW.out.1.trans (hwr.mono HWB.out)
  by_cases hz0 : z < 0
  · have HER : Hid (lineEr P l = 6) := by show _ = _; rw [HER2.out, if_pos (by have := HZI.out.2; omega)]
    have HZW : Hid (wr.heap[w.heap.size + 1]? = some zero3) := block_keep hwr HZB.out
    have z0 : wr.cell? ⟨w.heap.size + 1, 0, none⟩ = some (.slice none 0 0) := by rw [Lib.cell_of_heap HZW.out]; rfl
    have z1 : wr.cell? ⟨w.heap.size + 1, 1, none⟩ = some (.slice none 0 0) := by rw [Lib.cell_of_heap HZW.out]; rfl
    have z2 : wr.cell? ⟨w.heap.size + 1, 2, none⟩ = some (.slice none 0 0) := by rw [Lib.cell_of_heap HZW.out]; rfl
    have y0 := frozen_of_block HZW.out 0
    have y1 := frozen_of_block HZW.out 1
    have y2 := frozen_of_block HZW.out 2
    go_wp2_with fail
    have hres := res_cells (HZW.out) (.slice a1 m1 n1) (.slice a2 m2 n2) (.slice a3 m3 n3)
    obtain ⟨r0, r1, r2⟩ := hres
    refine bodyPost_ret (v := .tuple #[.agg #[.slice a1 m1 n1, .slice a2 m2 n2, .slice a3 m3 n3], .int .i64 2, .int .i64 6]) (by simp [results, Tryz.results80, go_sem, r0, r1, r2]) rfl ?_
    exact ⟨a1, m1, n1, a2, m2, n2, a3, m3, n3, by rw [HAT.out, HER.out], fun q => absurd (HER.out.symm.trans q) (by decide), line_bad HBW.out.2 HB9w.out _ _ _⟩
  have HER : Hid (lineEr P l = 0) := by show _ = _; rw [HER2.out, if_neg (by omega)]
  have hB9 := hwr
  have hB9w := HB9w.out
  have hK9 := HK.out
  clear HB9
  obtain ⟨v', w7, hr0', d0, d1, ⟨xa, xn, xc, rfl⟩, hSt, hBe, hkp⟩ := (HST.out.below hB9).addStmt (by have := HSM.out.2.2.1; omega) ⟨kFun, ix, z, []⟩ (.slice none 0 0) ⟨_, _, rfl, Nat.zero_le _, Or.inl rfl⟩
  have HR : Hid ((Builtin.append_ #[41, 41] 41 #[.slice a3 m3 n3, .slice (some ⟨wr.heap.size, 0, none⟩) 1 1]).run Tryz.prog (wr.alloc (.cells #[.string ⟨#[102, 117, 110]⟩, .int .i64 ix, .int .i64 z, .slice none 0 0] 60)) = .ok (.slice xa xn xc) w7) := hr0'
  have HS7 : Hid (Rp (w7.setCell ⟨w.heap.size, 2, none⟩ (.slice xa xn xc)) B w.heap.size { P with stmts := P.stmts ++ [⟨kFun, ix, z, []⟩] } (.slice a1 m1 n1) (.slice a2 m2 n2) (.slice xa xn xc) ps (qs ++ [.slice none 0 0]) ∧ Below B w (w7.setCell ⟨w.heap.size, 2, none⟩ (.slice xa xn xc)) ∧ KP w (w7.setCell ⟨w.heap.size, 2, none⟩ (.slice xa xn xc))) := ⟨hSt, (hB9w.mono HBW.out.2).trans hBe, kp_set (kp_kept hB9w hkp (by decide)) (Nat.le_refl _)⟩
  have HZ7 : Hid ((w7.setCell ⟨w.heap.size, 2, none⟩ (.slice xa xn xc)).heap[w.heap.size + 1]? = some zero3) := by
    show _ = _
    rw [other_block (by omega)]; exact hkp _ _ _ _ (block_keep hB9 HZB.out) (by decide)
  obtain ⟨j0, j1, j2⟩ := (HST.out.below hB9).cells
  have s0 : wr.cell? ⟨W.heap.size, 0, none⟩ = some (.string ⟨#[102, 117, 110]⟩) := by rw [Lib.cell_of_heap hK9]; rfl
  have s1 : wr.cell? ⟨W.heap.size, 1, none⟩ = some (.int .i64 ix) := by rw [Lib.cell_of_heap hK9]; rfl
  have s2 : wr.cell? ⟨W.heap.size, 2, none⟩ = some (.int .i64 z) := by rw [Lib.cell_of_heap hK9]; rfl
  have s3 : wr.cell? ⟨W.heap.size, 3, none⟩ = some (.slice none 0 0) := by rw [Lib.cell_of_heap hK9]; rfl
  clear hr0' hSt hBe hkp hB9 hB9w hK9 HK
  go_upto_region 73 with (at_builtin; refine Lib.wpList_append_run _ rfl _ _ _ _ rfl _ _ rfl rfl _ _ HR.out ?_)
  go_upto_region 74 with fail
  obtain ⟨W7, hW7⟩ : ∃ W7, W7 = w7.setCell ⟨w.heap.size, 2, none⟩ (.slice xa xn xc) := ⟨_, rfl⟩
  rw [← hW7] at HS7 HZ7 ⊢
  clear hW7
  obtain ⟨k0, k1, k2⟩ := HS7.out.1.cells
  have z0 : W7.cell? ⟨w.heap.size + 1, 0, none⟩ = some (.slice none 0 0) := by rw [Lib.cell_of_heap HZ7.out]; rfl
  have z1 : W7.cell? ⟨w.heap.size + 1, 1, none⟩ = some (.slice none 0 0) := by rw [Lib.cell_of_heap HZ7.out]; rfl
  have z2 : W7.cell? ⟨w.heap.size + 1, 2, none⟩ = some (.slice none 0 0) := by rw [Lib.cell_of_heap HZ7.out]; rfl
  have y0 := frozen_of_block HZ7.out 0
  have y1 := frozen_of_block HZ7.out 1
  have y2 := frozen_of_block HZ7.out 2
  go_wp2_with fail
  obtain ⟨r0, r1, r2⟩ := res_cells (HZ7.out) (.slice a1 m1 n1) (.slice a2 m2 n2) (.slice xa xn xc)
  refine bodyPost_ret (v := .tuple #[.agg #[.slice a1 m1 n1, .slice a2 m2 n2, .slice xa xn xc], .int .i64 2, .int .i64 0]) (by simp [results, Tryz.results80, go_sem, r0, r1, r2]) rfl ?_
  exact ⟨_, _, _, _, _, _, _, _, _, by rw [HAT.out, HER.out], fun _ => ⟨_, _, _, by rw [HQ.out]; exact HS7.out.1.set3 HZ7.out (by omega) _ _ _⟩, line_good HBW.out.2 HS7.out.2 _ _ _⟩
end Go.Proofs.YtakmmpbkojhmhaaGreatDoor

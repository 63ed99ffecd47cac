/-
  RunDoes answers true at every program, script, kind and number that read as plain data.
-/
import Derived.Test.YtdbcjeccmjpbiabDoorTL
import Derived.Test.YtdbcjeccmjpbiabDoorXTM
import Derived.Test.YtdbcjeccmjpbiabDoorXKM
import Derived.Test.YtdbcjeccmjpbiabDoorTG
import Derived.Test.YtdbcjeccmjpbiabDoorQD
import Derived.Deep.DeepCutAuto
namespace Go.Proofs.YtdbcjeccmjpbiabDoor
open Go.RowKit Go.Extern.Stop Go.Stop Go.Extern

abbrev fltBox (c n : Int) : Obj := .cells #[.int .i64 c, .int .i64 n] 40
theorem flt_set {w : World} {b : Nat} {c n : Int} (h : w.heap[b]? = some (fltBox c n)) (c' n' : Int) : ((w.setCell ⟨b, 0, none⟩ (.int .i64 c')).setCell ⟨b, 1, none⟩ (.int .i64 n')).heap[b]? = some (fltBox c' n') := by
  have h1 := set_block _ _ 0 _ _ _ h (.int .i64 c')
  have h2 := set_block _ _ 1 _ _ _ h1 (.int .i64 n')
  rw [h2]; rfl
theorem flt_cells {w : World} {b : Nat} {c n : Int} (h : w.heap[b]? = some (fltBox c n)) : w.cell? ⟨b, 0, none⟩ = some (.int .i64 c) ∧ w.cell? ⟨b, 1, none⟩ = some (.int .i64 n) := by
  refine ⟨?_, ?_⟩
  · rw [Lib.cell_of_heap h]; rfl
  · rw [Lib.cell_of_heap h]; rfl
theorem box3_set {w : World} {b c i : Nat} {v1 v2 v3 x : Value} (h : Box3 w b v1 v2 v3) (hne : b ≠ c) : Box3 (w.setCell ⟨c, i, none⟩ x) b v1 v2 v3 := ⟨other_cell h.1 hne, other_cell h.2.1 hne, other_cell h.2.2 hne⟩
theorem codeE_pos {e : ErrD} (h : e.isNone = false) : 0 < codeE e := by
  cases e with
  | none => cases h
  | some x => show 0 < (x.1 : Int) + 1; omega

set_option maxRecDepth 100000 in
set_option maxHeartbeats 8000000 in
theorem runDoes_long (a : Nat → Addr) (P : ProgD) (v1 v2 v3 sv : Value) (zs : List Int) (K : ByteArray) (N : Int) (w : World) (h : IsProg w v1 v2 v3 P) (hz : IsCap w sv zs) (hE : Errs w a) (hl : 200 < zs.length ∧ zs.length ≠ 2001) :
    Calls Tryd.prog 3 #[.agg #[v1, v2, v3], sv, .string K, .int .i64 N] w fun e w' => e = .returned (.bool true) ∧ Below w.heap.size w w' := by
  have H : Hid (IsProg w v1 v2 v3 P) := h
  have HE : Hid (Errs w a) := hE
  have hz' := hz
  obtain ⟨-, sa, sc, rfl, hsc⟩ := hz
  obtain ⟨⟨a1, c1, rfl, -, -⟩, ⟨a2, c2, rfl, -, -⟩, ⟨a3, c3, rfl, -, -⟩⟩ := h
  obtain ⟨n1, hn1⟩ : ∃ m, m = P.vars.length := ⟨_, rfl⟩
  obtain ⟨n2, hn2⟩ : ∃ m, m = P.funs.length := ⟨_, rfl⟩
  obtain ⟨n3, hn3⟩ : ∃ m, m = P.stmts.length := ⟨_, rfl⟩
  obtain ⟨m, hm⟩ : ∃ m, m = zs.length := ⟨_, rfl⟩
  have HN : Hid (n1 = P.vars.length ∧ n2 = P.funs.length ∧ n3 = P.stmts.length ∧ m = zs.length) := ⟨hn1, hn2, hn3, hm⟩
  rw [← hn1, ← hn2, ← hn3] at H ⊢
  rw [← hm] at hsc hl ⊢
  have HZ : Hid (IsCap w (.slice sa m sc) zs) := by show IsCap _ _ _; rw [hm]; exact hz'
  clear hn1 hn2 hn3 hE hz'
  obtain ⟨W, hW⟩ : ∃ W, W = w.alloc (.cells #[.slice a1 n1 c1, .slice a2 n2 c2, .slice a3 n3 c3] 26) := ⟨_, rfl⟩
  have hBW : Below w.heap.size w W := by rw [hW]; exact below1 w _
  have HBX : Hid (Box3 W w.heap.size (.slice a1 n1 c1) (.slice a2 n2 c2) (.slice a3 n3 c3)) := by
    show Box3 W _ _ _ _
    rw [hW]; exact box3_new w _ _ _ _
  have K1 : Hid (Calls Tryd.prog 5 #[] W fun e w' => e = .returned (.bool true) ∧ Below W.heap.size W w') := ran_any a W (HE.out.five.below hBW)
  rw [hW] at K1
  clear hm
  have g1 : (200 : Int) < m := by omega
  have g2 : ((m : Int) != 2001) = true := by simp; omega
  clear hl
  go_enter Tryd.func3, Tryd.ntmps3
  go_wp2_with fail
  refine K1.out.mono ?_
  rintro e w1 ⟨rfl, hB1⟩
  rw [← hW] at hB1
  clear K1 hW
  obtain ⟨p0, p1, p2⟩ := HBX.out.below hB1
  have hB1w : Below w.heap.size w w1 := hBW.trans (hB1.mono hBW.size)
  go_wp2_with fail
  refine (large_any P _ _ _ w1 (H.out.below hB1w)).mono ?_
  rintro e w2 ⟨r, rfl, hr, hB2⟩
  have hB2w : Below w.heap.size w w2 := hB1w.trans (hB2.mono hB1w.size)
  rcases hr with rfl | ⟨rfl, hs, hsn⟩
  · go_wp2_with fail
    go_ret
    exact ⟨rfl, hB2w⟩
  clear hs hsn
  go_wp2_with fail
  go_ret
  exact ⟨rfl, hB2w⟩

set_option maxRecDepth 100000 in
set_option maxHeartbeats 8000000 in
theorem runDoes_full (a : Nat → Addr) (P : ProgD) (v1 v2 v3 sv : Value) (zs : List Int) (K : ByteArray) (N : Int) (w : World) (h : IsProg w v1 v2 v3 P) (hz : IsCap w sv zs) (hE : Errs w a) (hl : zs.length = 2001) :
    Calls Tryd.prog 3 #[.agg #[v1, v2, v3], sv, .string K, .int .i64 N] w fun e w' => e = .returned (.bool true) ∧ Below w.heap.size w w' := by
  have H : Hid (IsProg w v1 v2 v3 P) := h
  have HE : Hid (Errs w a) := hE
  have hz' := hz
  obtain ⟨-, sa, sc, rfl, hsc⟩ := hz
  obtain ⟨⟨a1, c1, rfl, -, -⟩, ⟨a2, c2, rfl, -, -⟩, ⟨a3, c3, rfl, -, -⟩⟩ := h
  obtain ⟨n1, hn1⟩ : ∃ m, m = P.vars.length := ⟨_, rfl⟩
  obtain ⟨n2, hn2⟩ : ∃ m, m = P.funs.length := ⟨_, rfl⟩
  obtain ⟨n3, hn3⟩ : ∃ m, m = P.stmts.length := ⟨_, rfl⟩
  obtain ⟨m, hm⟩ : ∃ m, m = zs.length := ⟨_, rfl⟩
  have HN : Hid (n1 = P.vars.length ∧ n2 = P.funs.length ∧ n3 = P.stmts.length ∧ m = zs.length) := ⟨hn1, hn2, hn3, hm⟩
  rw [← hn1, ← hn2, ← hn3] at H ⊢
  rw [← hm] at hsc hl ⊢
  have HZ : Hid (IsCap w (.slice sa m sc) zs) := by show IsCap _ _ _; rw [hm]; exact hz'
  clear hn1 hn2 hn3 hE hz'
  obtain ⟨W, hW⟩ : ∃ W, W = w.alloc (.cells #[.slice a1 n1 c1, .slice a2 n2 c2, .slice a3 n3 c3] 26) := ⟨_, rfl⟩
  have hBW : Below w.heap.size w W := by rw [hW]; exact below1 w _
  have HBX : Hid (Box3 W w.heap.size (.slice a1 n1 c1) (.slice a2 n2 c2) (.slice a3 n3 c3)) := by
    show Box3 W _ _ _ _
    rw [hW]; exact box3_new w _ _ _ _
  have K1 : Hid (Calls Tryd.prog 5 #[] W fun e w' => e = .returned (.bool true) ∧ Below W.heap.size W w') := ran_any a W (HE.out.five.below hBW)
  rw [hW] at K1
  clear hm
  have g1 : (200 : Int) < m := by omega
  have g2 : ((m : Int) != 2001) = false := by simp; omega
  have g3 : (2000 : Int) < m := by omega
  have hml : m ≤ 1000000 := by omega
  clear hl
  go_enter Tryd.func3, Tryd.ntmps3
  go_wp2_with fail
  refine K1.out.mono ?_
  rintro e w1 ⟨rfl, hB1⟩
  rw [← hW] at hB1
  clear K1 hW
  obtain ⟨p0, p1, p2⟩ := HBX.out.below hB1
  have hB1w : Below w.heap.size w w1 := hBW.trans (hB1.mono hBW.size)
  go_wp2_with fail
  refine (large_any P _ _ _ w1 (H.out.below hB1w)).mono ?_
  rintro e w2 ⟨r, rfl, hr, hB2⟩
  have hB2w : Below w.heap.size w w2 := hB1w.trans (hB2.mono hB1w.size)
  rcases hr with rfl | ⟨rfl, hs, hsn⟩
  · go_wp2_with fail
    go_ret
    exact ⟨rfl, hB2w⟩
  by_cases gk : (20 : Int) < K.size
  · go_wp2_with fail
    go_ret
    exact ⟨rfl, hB2w⟩
  have HS : Hid (SmallP P ∧ SmallN P) := ⟨hs, hsn⟩
  have X2 : Hid (Box3 w2 w.heap.size (.slice a1 n1 c1) (.slice a2 n2 c2) (.slice a3 n3 c3)) := (HBX.out.below hB1).below hB2
  clear p0 p1 p2 hs hsn hB1 hB1w hB2
  obtain ⟨p0, p1, p2⟩ := X2.out
  go_wp2_with fail
  refine (ownProgram_any P _ _ _ w2 HS.out.1 (H.out.below hB2w)).mono ?_
  rintro e w3 ⟨u1, u2, u3, rfl, hq, hB3⟩
  have hB3w : Below w.heap.size w w3 := hB2w.trans (hB3.mono hB2w.size)
  have X3 : Hid (Box3 w3 w.heap.size (.slice a1 n1 c1) (.slice a2 n2 c2) (.slice a3 n3 c3)) := X2.out.below hB3
  have HQ : Hid (IsProg w3 u1 u2 u3 P) := hq
  obtain ⟨⟨b1, d1, rfl, -, -⟩, ⟨b2, d2, rfl, -, -⟩, ⟨b3, d3, rfl, -, -⟩⟩ := hq
  rw [← HN.out.1, ← HN.out.2.1, ← HN.out.2.2.1] at HQ ⊢
  clear g1 g2 gk p0 p1 p2 hB2w hB3 X2
  go_upto_region 5 with fail
  obtain ⟨W4, hW4⟩ : ∃ W4, W4 = w3.alloc (.cells #[.slice b1 n1 d1, .slice b2 n2 d2, .slice b3 n3 d3] 26) := ⟨_, rfl⟩
  have hB34 : Below w3.heap.size w3 W4 := by rw [hW4]; exact below1 w3 _
  have hB4w : Below w.heap.size w W4 := hB3w.trans (hB34.mono hB3w.size)
  have hX4 : Box3 W4 w3.heap.size (.slice b1 n1 d1) (.slice b2 n2 d2) (.slice b3 n3 d3) := by rw [hW4]; exact box3_new w3 _ _ _ _
  rw [← hW4]
  clear hW4
  obtain ⟨qb, hqb⟩ : ∃ b, b = w3.heap.size := ⟨_, rfl⟩
  rw [← hqb] at hX4 ⊢
  clear hqb
  have XQ4 : Hid (Box3 W4 qb (.slice b1 n1 d1) (.slice b2 n2 d2) (.slice b3 n3 d3)) := hX4
  obtain ⟨y0, y1, y2⟩ := hX4
  have X4 : Hid (Box3 W4 w.heap.size (.slice a1 n1 c1) (.slice a2 n2 c2) (.slice a3 n3 c3)) := X3.out.below hB34
  have HQ4 : Hid (∀ wx, Below W4.heap.size W4 wx → IsProg wx (.slice b1 n1 d1) (.slice b2 n2 d2) (.slice b3 n3 d3) P ∧ IsProg wx (.slice a1 n1 c1) (.slice a2 n2 c2) (.slice a3 n3 c3) P ∧ Errs wx a ∧ IsCap wx (.slice sa m sc) zs) := fun wx hwx => ⟨(HQ.out.below hB34).below hwx, (H.out.below hB4w).below hwx, (HE.out.below hB4w).below hwx, (HZ.out.below hB4w).below hwx⟩
  have hmz := HN.out.2.2.2
  have KO : Hid (∀ w0 wx, Below W4.heap.size W4 w0 → Below w0.heap.size w0 wx → Calls Tryd.prog 9 #[.slice sa m sc] wx fun e w' => ∃ pa pc, e = .returned (.slice pa m pc) ∧ IsInts w' (.slice pa m pc) zs ∧ Below w0.heap.size w0 w' ∧ Below wx.heap.size wx w') := fun w0 wx h0 hwx => by
    have hwx4 := h0.trans (hwx.mono h0.size)
    refine (ownInts_row zs (.slice sa m sc) wx (by omega) (HQ4.out wx hwx4).2.2.2.1).mono ?_
    rintro e w' ⟨pa, pc, rfl, ho, hb⟩
    rw [← hmz] at ho ⊢
    exact ⟨pa, pc, rfl, isInts_owns ho, hwx.trans (hb.mono hwx.size), hb⟩
  have KD : Hid (∀ w0 wx pa pc, Below W4.heap.size W4 w0 → Below w0.heap.size w0 wx → IsInts wx (.slice pa m pc) zs → Calls Tryd.prog 8 #[.agg #[.slice b1 n1 d1, .slice b2 n2 d2, .slice b3 n3 d3], .slice pa m pc] wx fun e w' => ∃ a1 m1 c1 a2 m2 c2 a3 m3 c3 ev, e = .returned (.tuple #[.agg #[.slice a1 m1 c1, .slice a2 m2 c2, .slice a3 m3 c3], ev]) ∧ DoP a w' wx.heap.size P zs a1 m1 c1 a2 m2 c2 a3 m3 c3 ev ∧ Below w0.heap.size w0 w' ∧ Below wx.heap.size wx w') := fun w0 wx pa pc h0 hwx hi => by
    have hwx4 := h0.trans (hwx.mono h0.size)
    refine (do_full a P _ _ _ _ zs wx HS.out.1 (HQ4.out wx hwx4).1 (HQ4.out wx hwx4).2.2.1.five hi (by omega)).mono ?_
    rintro e w' ⟨x1, x2, x3, x4, x5, x6, x7, x8, x9, ev, rfl, hd, hb⟩
    exact ⟨x1, x2, x3, x4, x5, x6, x7, x8, x9, ev, rfl, hd, hwx.trans (hb.mono hwx.size), hb⟩
  clear hmz X3 HBX hBW hB34 hB3w
  go_cut [11, 12] (fun s9 s10 wx => ∃ sb B f1 m1 e1 f2 m2 e2 f3 m3 e3, s9 = .pointer (some ⟨sb, 0, none⟩) ∧ Box3 wx sb (.slice f1 m1 e1) (.slice f2 m2 e2) (.slice f3 m3 e3) ∧ DoP a wx B P zs f1 m1 e1 f2 m2 e2 f3 m3 e3 s10 ∧ Below W4.heap.size W4 wx)
  case first =>
    go_region_held3 (fun wx => Below W4.heap.size W4 wx ∧ wx.cell? ⟨qb, 0, none⟩ = some (.slice b1 n1 d1) ∧ wx.cell? ⟨qb, 1, none⟩ = some (.slice b2 n2 d2) ∧ wx.cell? ⟨qb, 2, none⟩ = some (.slice b3 n3 d3))
      ((go_split_ands; refine keep3 y0 y1 y2 ?_; repeat (with_reducible first | assumption | exact Below.refl _ _ | refine Below.drew ?_ | refine below_al ?_ _ | refine below_set ?_ (by first | exact Nat.le_refl _ | exact hb5.size))))
      (first
        | (go_at_call 9; refine (KO.out W4 _ (Below.refl _ _) ?_).mono ?_; (go_split_ands; assumption); rintro e w5 ⟨pa, pc, rfl, hi5, hb5, hb5x⟩; (try (have hz5 := block_keep hb5x (show ((W4.alloc zSt).drew).heap[W4.heap.size]? = some zSt from heap_new W4 _); have HZ5 : Hid (w5.heap[W4.heap.size]? = some zSt) := hz5; clear hz5)); clear hb5x)
        | (go_at_call 8; refine (KD.out W4 _ pa pc (Below.refl _ _) ?_ ?_).mono ?_; (go_split_ands; assumption); (first | exact hi5 | exact hi5.below (below1 _ _)); rintro e w6 ⟨f1, m1, e1, f2, m2, e2, f3, m3, e3, ev, rfl, hd6, hb6, hb6x⟩; (try (have hz := block_keep hb6x HZ5.out; have z0 := Lib.cell_of_heap hz 0; have z1 := Lib.cell_of_heap hz 1; have z2 := Lib.cell_of_heap hz 2; simp only [List.getElem?_toArray, List.getElem?_cons_zero, List.getElem?_cons_succ] at z0 z1 z2; have x0 := frozen_of_block hz 0; have x1 := frozen_of_block hz 1; have x2 := frozen_of_block hz 2; have HZZ : Hid (w6.heap[W4.heap.size]? = some zSt) := hz; clear hz)); (try (have hz := block_keep hb6x (heap_new w5 zSt); have z0 := Lib.cell_of_heap hz 0; have z1 := Lib.cell_of_heap hz 1; have z2 := Lib.cell_of_heap hz 2; simp only [List.getElem?_toArray, List.getElem?_cons_zero, List.getElem?_cons_succ] at z0 z1 z2; have x0 := frozen_of_block hz 0; have x1 := frozen_of_block hz 1; have x2 := frozen_of_block hz 2; have HZY : Hid (w6.heap[w5.heap.size]? = some zSt) := hz; clear hz)); have HD6 : Hid (DoP a w6 _ P zs f1 m1 e1 f2 m2 e2 f3 m3 e3 ev) := hd6; clear hd6 hb6x))
    all_goals (go_wp2_with fail; go_meet)
    all_goals first
      | with_reducible exact ⟨w6.heap.size, _, f1, m1, e1, f2, m2, e2, f3, m3, e3, rfl, box3_new w6 _ _ _ _, HD6.out.below (below1 w6 _), below_al hb6 _⟩
      | exact ⟨w5.heap.size, _, f1, m1, e1, f2, m2, e2, f3, m3, e3, rfl, box3_over HZY.out _ _ _, HD6.out.over HZY.out (by simp), below_set (below_set (below_set hb6 hb5.size) hb5.size) hb5.size⟩
      | exact ⟨W4.heap.size, _, f1, m1, e1, f2, m2, e2, f3, m3, e3, rfl, box3_over HZZ.out _ _ _, HD6.out.over HZZ.out (lt_block HZ5.out), below_set (below_set (below_set hb6 (Nat.le_refl _)) (Nat.le_refl _)) (Nat.le_refl _)⟩
  case rest =>
  obtain ⟨sb, B1, f1, m1, e1, f2, m2, e2, f3, m3, e3, rfl, hx1, hd1, hb1⟩ := hcut
  obtain ⟨W5, rfl⟩ : ∃ W5, W5 = wc := ⟨_, rfl⟩
  have HX1 : Hid (Box3 W5 sb (.slice f1 m1 e1) (.slice f2 m2 e2) (.slice f3 m3 e3)) := hx1
  have HD1 : Hid (DoP a W5 B1 P zs f1 m1 e1 f2 m2 e2 f3 m3 e3 u12) := hd1
  obtain ⟨p0, p1, p2⟩ := X4.out.below hb1
  clear hx1 hd1 y0 y1 y2 KO KD
  obtain ⟨ev1, hev1⟩ : ∃ ev1, ev1 = u12 := ⟨_, rfl⟩
  rw [← hev1] at HD1 ⊢
  clear hev1
  go_wp2_with fail
  refine (refFault_any P _ _ _ W5 HS.out.1 HS.out.2 (HQ4.out W5 hb1).2.1).mono ?_
  rintro e w6 ⟨rfl, hB6⟩
  obtain ⟨fc, hfc⟩ : ∃ c, c = codeE (checkE P) := ⟨_, rfl⟩
  obtain ⟨fp, hfp⟩ : ∃ c, c = placeE (checkE P) := ⟨_, rfl⟩
  rw [← hfc, ← hfp]
  have HFC : Hid (fc = codeE (checkE P) ∧ fp = placeE (checkE P)) := ⟨hfc, hfp⟩
  have hb6 : Below W4.heap.size W4 w6 := hb1.trans (hB6.mono hb1.size)
  have HX6 : Hid (Box3 w6 sb (.slice f1 m1 e1) (.slice f2 m2 e2) (.slice f3 m3 e3)) := HX1.out.below hB6
  have HD6 : Hid (DoP a w6 B1 P zs f1 m1 e1 f2 m2 e2 f3 m3 e3 ev1) := HD1.out.below hB6
  clear p0 p1 p2 hfc hfp HX1 HD1 hB6
  go_upto_region 7 with fail
  obtain ⟨W7, hW7⟩ : ∃ W7, W7 = w6.alloc (fltBox fc fp) := ⟨_, rfl⟩
  have hB7 : Below w6.heap.size w6 W7 := by rw [hW7]; exact below1 w6 _
  have hf7 : W7.heap[w6.heap.size]? = some (fltBox fc fp) := by rw [hW7]; exact heap_new w6 _
  rw [← hW7]
  clear hW7
  obtain ⟨q0, q1⟩ := flt_cells hf7
  cases hc : checkE P with
  | some x =>
    have hrun : runE P zs = checkE P := by unfold runE; rw [hc]
    have HRC : Hid (fc = codeE (runE P zs) ∧ fp = placeE (runE P zs)) := by
      show _ ∧ _
      rw [hrun]; exact HFC.out
    have hcp : 0 < fc := by rw [HRC.out.1]; exact codeE_pos (by rw [hrun, hc]; rfl)
    have hc0 : ¬ fc = 0 := by omega
    have HNB : Hid (runE P zs ≠ none) := by show _ ≠ _; rw [hrun, hc]; exact fun q => by cases q
    have HER : Hid ((runE P zs).isNone = false ∧ ErrV w6 a (runE P zs) ev1 ∧ (f1 = none ∧ m1 = 0 ∧ e1 = 0) ∧ (f2 = none ∧ m2 = 0 ∧ e2 = 0) ∧ (f3 = none ∧ m3 = 0 ∧ e3 = 0)) := by
      rcases HD6.out.is with ⟨r1, _⟩ | r
      · exact absurd r1 HNB.out
      · exact r
    clear hc hrun
    go_wp2_with fail
    go_loopw [14] (fun t wr => t = .int .i64 0 ∧ wr = W7) (fun _ _ => 0)
    case atStart => exact ⟨rfl, rfl⟩
    case round =>
      obtain ⟨rfl, hwr⟩ := hrel
      obtain rfl := hwr.symm
      have hm0 : (0 : Int) < m := by omega
      go_wp2_with fail
      have HBW : Hid (Below w6.heap.size w6 W7) := hB7
      obtain ⟨x0, x1, x2⟩ := HX6.out.below HBW.out
      have KF : Hid (Calls Tryd.prog 12 #[ev1, .agg #[.int .i64 fc, .int .i64 fp]] W7 fun r w' => r = .returned (.bool true) ∧ Below (W7).heap.size W7 w') := faulted_any a (runE P zs) ev1 _ _ _ ((HQ4.out _ (hb6.trans (HBW.out.mono hb6.size))).2.2.1) (HER.out.2.1.below HBW.out) runE_lt HRC.out.1 HRC.out.2
      obtain ⟨⟨rfl, rfl, rfl⟩, ⟨rfl, rfl, rfl⟩, ⟨rfl, rfl, rfl⟩⟩ := HER.out.2.2
      go_wp2_with fail
      refine KF.out.mono ?_
      rintro e w8 ⟨rfl, hB8⟩
      replace x0 := cell_keep hB8 x0
      replace x1 := cell_keep hB8 x1
      replace x2 := cell_keep hB8 x2
      go_wp2_with fail
      go_ret
      exact ⟨rfl, (hB4w.trans ((hb6.trans (HBW.out.mono hb6.size)).mono hB4w.size)).trans (hB8.mono (Nat.le_trans (hB4w.trans (hb6.mono hB4w.size)).size HBW.out.size))⟩
  | none =>
    have hrun : runE P zs = some (7, -1) := by
      unfold runE; rw [hc]
      unfold doneE; rw [if_pos (by rw [← HN.out.2.2.2]; omega)]
    have HRC : Hid ((8 : Int) = codeE (runE P zs) ∧ (-1 : Int) = placeE (runE P zs)) := by
      show _ ∧ _
      rw [hrun]; exact ⟨rfl, rfl⟩
    have HNB : Hid (runE P zs ≠ none) := by show _ ≠ _; rw [hrun]; exact fun q => by cases q
    obtain rfl : fc = 0 := by rw [HFC.out.1, hc]; rfl
    have HER : Hid ((runE P zs).isNone = false ∧ ErrV w6 a (runE P zs) ev1 ∧ (f1 = none ∧ m1 = 0 ∧ e1 = 0) ∧ (f2 = none ∧ m2 = 0 ∧ e2 = 0) ∧ (f3 = none ∧ m3 = 0 ∧ e3 = 0)) := by
      rcases HD6.out.is with ⟨r1, _⟩ | r
      · exact absurd r1 HNB.out
      · exact r
    clear hc hrun
    go_wp2_with fail
    refine (bare_ref 8 W7).mono ?_
    rintro e w7 ⟨rfl, hB77⟩
    have hf8 := block_keep hB77 hf7
    have fz0 := frozen_of_block hf8 0
    have fz1 := frozen_of_block hf8 1
    replace q0 := cell_keep hB77 q0
    replace q1 := cell_keep hB77 q1
    go_upto_region 9 with fail
    obtain ⟨W8, hW8⟩ : ∃ W8, W8 = (w7.setCell ⟨w6.heap.size, 0, none⟩ (.int .i64 8)).setCell ⟨w6.heap.size, 1, none⟩ (.int .i64 (-1)) := ⟨_, rfl⟩
    have hf9 : W8.heap[w6.heap.size]? = some (fltBox 8 (-1)) := by rw [hW8]; exact flt_set hf8 8 (-1)
    have hB9 : Below w6.heap.size w6 W8 := by
      rw [hW8]
      exact ((hB7.trans (hB77.mono hB7.size)).setCell (Nat.le_refl _) _).setCell (Nat.le_refl _) _
    rw [← hW8]
    clear hW8 q0 q1 fz0 fz1 hf8 hf7 hB77
    obtain ⟨q0, q1⟩ := flt_cells hf9
    go_wp2_with fail
    go_loopw [14] (fun t wr => t = .int .i64 0 ∧ wr = W8) (fun _ _ => 0)
    case atStart => exact ⟨rfl, rfl⟩
    case round =>
      obtain ⟨rfl, hwr⟩ := hrel
      obtain rfl := hwr.symm
      have hm0 : (0 : Int) < m := by omega
      go_wp2_with fail
      have HBW : Hid (Below w6.heap.size w6 W8) := hB9
      obtain ⟨x0, x1, x2⟩ := HX6.out.below HBW.out
      have KF : Hid (Calls Tryd.prog 12 #[ev1, .agg #[.int .i64 8, .int .i64 (-1)]] W8 fun r w' => r = .returned (.bool true) ∧ Below (W8).heap.size W8 w') := faulted_any a (runE P zs) ev1 _ _ _ ((HQ4.out _ (hb6.trans (HBW.out.mono hb6.size))).2.2.1) (HER.out.2.1.below HBW.out) runE_lt HRC.out.1 HRC.out.2
      obtain ⟨⟨rfl, rfl, rfl⟩, ⟨rfl, rfl, rfl⟩, ⟨rfl, rfl, rfl⟩⟩ := HER.out.2.2
      go_wp2_with fail
      refine KF.out.mono ?_
      rintro e w8 ⟨rfl, hB8⟩
      replace x0 := cell_keep hB8 x0
      replace x1 := cell_keep hB8 x1
      replace x2 := cell_keep hB8 x2
      go_wp2_with fail
      go_ret
      exact ⟨rfl, (hB4w.trans ((hb6.trans (HBW.out.mono hb6.size)).mono hB4w.size)).trans (hB8.mono (Nat.le_trans (hB4w.trans (hb6.mono hB4w.size)).size HBW.out.size))⟩
end Go.Proofs.YtdbcjeccmjpbiabDoor

/-
  RunDoes answers true at every program, script, kind and number that read as plain data.
-/
namespace Go.Proofs.YtdbcjeccmjpbiabDoor
open Go.RowKit Go.Extern.Stop Go.Stop Go.Extern

set_option maxRecDepth 100000 in
set_option maxHeartbeats 8000000 in
theorem runDoes_main (a : Nat → Addr) (P : ProgD) (v1 v2 v3 sv : Value) (zs : List Int) (K : ByteArray) (N : Int) (w : World) (h : IsProg w v1 v2 v3 P) (hz : IsCap w sv zs) (hE : Errs w a) (hl : zs.length ≤ 200) :
    Calls Tryd.prog 3 #[.agg #[v1, v2, v3], sv, .string K, .int .i64 N] w fun e w' => e = .returned (.bool true) ∧ Below w.heap.size w w' := by
  have H : Hid (IsProg w v1 v2 v3 P) := h
  have HE : Hid (Errs w a) := hE
  have hz' := hz
  obtain ⟨-, sa, sc, rfl, hsc⟩ := hz
  obtain ⟨⟨a1, c1, rfl, -, -⟩, ⟨a2, c2, rfl, -, -⟩, ⟨a3, c3, rfl, -, -⟩⟩ := h
  obtain ⟨n1, hn1⟩ : ∃ m, m = P.vars.length := ⟨_, rfl⟩
  obtain ⟨n2, hn2⟩ : ∃ m, m = P.funs.length := ⟨_, rfl⟩
  obtain ⟨n3, hn3⟩ : ∃ m, m = P.stmts.length := ⟨_, rfl⟩
  obtain ⟨m, hm⟩ : ∃ m, m = zs.length := ⟨_, rfl⟩
  have HN : Hid (n1 = P.vars.length ∧ n2 = P.funs.length ∧ n3 = P.stmts.length ∧ m = zs.length) := ⟨hn1, hn2, hn3, hm⟩
  rw [← hn1, ← hn2, ← hn3] at H ⊢
  rw [← hm] at hsc hl ⊢
  have HZ : Hid (IsCap w (.slice sa m sc) zs) := by show IsCap _ _ _; rw [hm]; exact hz'
  clear hn1 hn2 hn3 hE hz'
  obtain ⟨W, hW⟩ : ∃ W, W = w.alloc (.cells #[.slice a1 n1 c1, .slice a2 n2 c2, .slice a3 n3 c3] 26) := ⟨_, rfl⟩
  have hBW : Below w.heap.size w W := by rw [hW]; exact below1 w _
  have HBX : Hid (Box3 W w.heap.size (.slice a1 n1 c1) (.slice a2 n2 c2) (.slice a3 n3 c3)) := by
    show Box3 W _ _ _ _
    rw [hW]; exact box3_new w _ _ _ _
  have K1 : Hid (Calls Tryd.prog 5 #[] W fun e w' => e = .returned (.bool true) ∧ Below W.heap.size W w') := ran_any a W (HE.out.five.below hBW)
  rw [hW] at K1
  clear hm
  have g1 : ¬ (200 : Int) < m := by omega
  have g2 : True := trivial
  have g3 : ¬ (2000 : Int) < m := by omega
  have hml : m ≤ 200 := hl
  clear hl
  go_enter Tryd.func3, Tryd.ntmps3
  go_wp2_with fail
  refine K1.out.mono ?_
  rintro e w1 ⟨rfl, hB1⟩
  rw [← hW] at hB1
  clear K1 hW
  obtain ⟨p0, p1, p2⟩ := HBX.out.below hB1
  have hB1w : Below w.heap.size w w1 := hBW.trans (hB1.mono hBW.size)
  go_wp2_with fail
  refine (large_any P _ _ _ w1 (H.out.below hB1w)).mono ?_
  rintro e w2 ⟨r, rfl, hr, hB2⟩
  have hB2w : Below w.heap.size w w2 := hB1w.trans (hB2.mono hB1w.size)
  rcases hr with rfl | ⟨rfl, hs, hsn⟩
  · go_wp2_with fail
    go_ret
    exact ⟨rfl, hB2w⟩
  by_cases gk : (20 : Int) < K.size
  · go_wp2_with fail
    go_ret
    exact ⟨rfl, hB2w⟩
  have HS : Hid (SmallP P ∧ SmallN P) := ⟨hs, hsn⟩
  have X2 : Hid (Box3 w2 w.heap.size (.slice a1 n1 c1) (.slice a2 n2 c2) (.slice a3 n3 c3)) := (HBX.out.below hB1).below hB2
  clear p0 p1 p2 hs hsn hB1 hB1w hB2
  obtain ⟨p0, p1, p2⟩ := X2.out
  go_wp2_with fail
  refine (ownProgram_any P _ _ _ w2 HS.out.1 (H.out.below hB2w)).mono ?_
  rintro e w3 ⟨u1, u2, u3, rfl, hq, hB3⟩
  have hB3w : Below w.heap.size w w3 := hB2w.trans (hB3.mono hB2w.size)
  have X3 : Hid (Box3 w3 w.heap.size (.slice a1 n1 c1) (.slice a2 n2 c2) (.slice a3 n3 c3)) := X2.out.below hB3
  have HQ : Hid (IsProg w3 u1 u2 u3 P) := hq
  obtain ⟨⟨b1, d1, rfl, -, -⟩, ⟨b2, d2, rfl, -, -⟩, ⟨b3, d3, rfl, -, -⟩⟩ := hq
  rw [← HN.out.1, ← HN.out.2.1, ← HN.out.2.2.1] at HQ ⊢
  clear g1 g2 gk p0 p1 p2 hB2w hB3 X2
  go_upto_region 5 with fail
  obtain ⟨W4, hW4⟩ : ∃ W4, W4 = w3.alloc (.cells #[.slice b1 n1 d1, .slice b2 n2 d2, .slice b3 n3 d3] 26) := ⟨_, rfl⟩
  have hB34 : Below w3.heap.size w3 W4 := by rw [hW4]; exact below1 w3 _
  have hB4w : Below w.heap.size w W4 := hB3w.trans (hB34.mono hB3w.size)
  have hX4 : Box3 W4 w3.heap.size (.slice b1 n1 d1) (.slice b2 n2 d2) (.slice b3 n3 d3) := by rw [hW4]; exact box3_new w3 _ _ _ _
  rw [← hW4]
  clear hW4
  obtain ⟨qb, hqb⟩ : ∃ b, b = w3.heap.size := ⟨_, rfl⟩
  rw [← hqb] at hX4 ⊢
  clear hqb
  have XQ4 : Hid (Box3 W4 qb (.slice b1 n1 d1) (.slice b2 n2 d2) (.slice b3 n3 d3)) := hX4
  obtain ⟨y0, y1, y2⟩ := hX4
  have X4 : Hid (Box3 W4 w.heap.size (.slice a1 n1 c1) (.slice a2 n2 c2) (.slice a3 n3 c3)) := X3.out.below hB34
  have HQ4 : Hid (∀ wx, Below W4.heap.size W4 wx → IsProg wx (.slice b1 n1 d1) (.slice b2 n2 d2) (.slice b3 n3 d3) P ∧ IsProg wx (.slice a1 n1 c1) (.slice a2 n2 c2) (.slice a3 n3 c3) P ∧ Errs wx a ∧ IsCap wx (.slice sa m sc) zs) := fun wx hwx => ⟨(HQ.out.below hB34).below hwx, (H.out.below hB4w).below hwx, (HE.out.below hB4w).below hwx, (HZ.out.below hB4w).below hwx⟩
  have hmz := HN.out.2.2.2
  have KO : Hid (∀ w0 wx, Below W4.heap.size W4 w0 → Below w0.heap.size w0 wx → Calls Tryd.prog 9 #[.slice sa m sc] wx fun e w' => ∃ pa pc, e = .returned (.slice pa m pc) ∧ IsInts w' (.slice pa m pc) zs ∧ Below w0.heap.size w0 w' ∧ Below wx.heap.size wx w') := fun w0 wx h0 hwx => by
    have hwx4 := h0.trans (hwx.mono h0.size)
    refine (ownInts_row zs (.slice sa m sc) wx (by omega) (HQ4.out wx hwx4).2.2.2.1).mono ?_
    rintro e w' ⟨pa, pc, rfl, ho, hb⟩
    rw [← hmz] at ho ⊢
    exact ⟨pa, pc, rfl, isInts_owns ho, hwx.trans (hb.mono hwx.size), hb⟩
  have KD : Hid (∀ w0 wx pa pc, Below W4.heap.size W4 w0 → Below w0.heap.size w0 wx → IsInts wx (.slice pa m pc) zs → Calls Tryd.prog 8 #[.agg #[.slice b1 n1 d1, .slice b2 n2 d2, .slice b3 n3 d3], .slice pa m pc] wx fun e w' => ∃ a1 m1 c1 a2 m2 c2 a3 m3 c3 ev, e = .returned (.tuple #[.agg #[.slice a1 m1 c1, .slice a2 m2 c2, .slice a3 m3 c3], ev]) ∧ DoP a w' wx.heap.size P zs a1 m1 c1 a2 m2 c2 a3 m3 c3 ev ∧ Below w0.heap.size w0 w' ∧ Below wx.heap.size wx w') := fun w0 wx pa pc h0 hwx hi => by
    have hwx4 := h0.trans (hwx.mono h0.size)
    refine (do_full a P _ _ _ _ zs wx HS.out.1 (HQ4.out wx hwx4).1 (HQ4.out wx hwx4).2.2.1.five hi (by omega)).mono ?_
    rintro e w' ⟨x1, x2, x3, x4, x5, x6, x7, x8, x9, ev, rfl, hd, hb⟩
    exact ⟨x1, x2, x3, x4, x5, x6, x7, x8, x9, ev, rfl, hd, hwx.trans (hb.mono hwx.size), hb⟩
  clear hmz X3 HBX hBW hB34 hB3w
  go_cut [11, 12] (fun s9 s10 wx => ∃ sb B f1 m1 e1 f2 m2 e2 f3 m3 e3, s9 = .pointer (some ⟨sb, 0, none⟩) ∧ Box3 wx sb (.slice f1 m1 e1) (.slice f2 m2 e2) (.slice f3 m3 e3) ∧ DoP a wx B P zs f1 m1 e1 f2 m2 e2 f3 m3 e3 s10 ∧ Below W4.heap.size W4 wx)
  case first =>
    go_region_held3 (fun wx => Below W4.heap.size W4 wx ∧ wx.cell? ⟨qb, 0, none⟩ = some (.slice b1 n1 d1) ∧ wx.cell? ⟨qb, 1, none⟩ = some (.slice b2 n2 d2) ∧ wx.cell? ⟨qb, 2, none⟩ = some (.slice b3 n3 d3))
      ((go_split_ands; refine keep3 y0 y1 y2 ?_; repeat (with_reducible first | assumption | exact Below.refl _ _ | refine Below.drew ?_ | refine below_al ?_ _ | refine below_set ?_ (by first | exact Nat.le_refl _ | exact hb5.size))))
      (first
        | (go_at_call 9; refine (KO.out W4 _ (Below.refl _ _) ?_).mono ?_; (go_split_ands; assumption); rintro e w5 ⟨pa, pc, rfl, hi5, hb5, hb5x⟩; (try (have hz5 := block_keep hb5x (show ((W4.alloc zSt).drew).heap[W4.heap.size]? = some zSt from heap_new W4 _); have HZ5 : Hid (w5.heap[W4.heap.size]? = some zSt) := hz5; clear hz5)); clear hb5x)
        | (go_at_call 8; refine (KD.out W4 _ pa pc (Below.refl _ _) ?_ ?_).mono ?_; (go_split_ands; assumption); (first | exact hi5 | exact hi5.below (below1 _ _)); rintro e w6 ⟨f1, m1, e1, f2, m2, e2, f3, m3, e3, ev, rfl, hd6, hb6, hb6x⟩; (try (have hz := block_keep hb6x HZ5.out; have z0 := Lib.cell_of_heap hz 0; have z1 := Lib.cell_of_heap hz 1; have z2 := Lib.cell_of_heap hz 2; simp only [List.getElem?_toArray, List.getElem?_cons_zero, List.getElem?_cons_succ] at z0 z1 z2; have x0 := frozen_of_block hz 0; have x1 := frozen_of_block hz 1; have x2 := frozen_of_block hz 2; have HZZ : Hid (w6.heap[W4.heap.size]? = some zSt) := hz; clear hz)); (try (have hz := block_keep hb6x (heap_new w5 zSt); have z0 := Lib.cell_of_heap hz 0; have z1 := Lib.cell_of_heap hz 1; have z2 := Lib.cell_of_heap hz 2; simp only [List.getElem?_toArray, List.getElem?_cons_zero, List.getElem?_cons_succ] at z0 z1 z2; have x0 := frozen_of_block hz 0; have x1 := frozen_of_block hz 1; have x2 := frozen_of_block hz 2; have HZY : Hid (w6.heap[w5.heap.size]? = some zSt) := hz; clear hz)); have HD6 : Hid (DoP a w6 _ P zs f1 m1 e1 f2 m2 e2 f3 m3 e3 ev) := hd6; clear hd6 hb6x))
    all_goals (go_wp2_with fail; go_meet)
    all_goals first
      | with_reducible exact ⟨w6.heap.size, _, f1, m1, e1, f2, m2, e2, f3, m3, e3, rfl, box3_new w6 _ _ _ _, HD6.out.below (below1 w6 _), below_al hb6 _⟩
      | exact ⟨w5.heap.size, _, f1, m1, e1, f2, m2, e2, f3, m3, e3, rfl, box3_over HZY.out _ _ _, HD6.out.over HZY.out (by simp), below_set (below_set (below_set hb6 hb5.size) hb5.size) hb5.size⟩
      | exact ⟨W4.heap.size, _, f1, m1, e1, f2, m2, e2, f3, m3, e3, rfl, box3_over HZZ.out _ _ _, HD6.out.over HZZ.out (lt_block HZ5.out), below_set (below_set (below_set hb6 (Nat.le_refl _)) (Nat.le_refl _)) (Nat.le_refl _)⟩
  case rest =>
  obtain ⟨sb, B1, f1, m1, e1, f2, m2, e2, f3, m3, e3, rfl, hx1, hd1, hb1⟩ := hcut
  obtain ⟨W5, rfl⟩ : ∃ W5, W5 = wc := ⟨_, rfl⟩
  have HX1 : Hid (Box3 W5 sb (.slice f1 m1 e1) (.slice f2 m2 e2) (.slice f3 m3 e3)) := hx1
  have HD1 : Hid (DoP a W5 B1 P zs f1 m1 e1 f2 m2 e2 f3 m3 e3 u12) := hd1
  obtain ⟨p0, p1, p2⟩ := X4.out.below hb1
  clear hx1 hd1 y0 y1 y2 KO KD
  obtain ⟨ev1, hev1⟩ : ∃ ev1, ev1 = u12 := ⟨_, rfl⟩
  rw [← hev1] at HD1 ⊢
  clear hev1
  go_wp2_with fail
  refine (refFault_any P _ _ _ W5 HS.out.1 HS.out.2 (HQ4.out W5 hb1).2.1).mono ?_
  rintro e w6 ⟨rfl, hB6⟩
  obtain ⟨fc, hfc⟩ : ∃ c, c = codeE (checkE P) := ⟨_, rfl⟩
  obtain ⟨fp, hfp⟩ : ∃ c, c = placeE (checkE P) := ⟨_, rfl⟩
  rw [← hfc, ← hfp]
  have HFC : Hid (fc = codeE (checkE P) ∧ fp = placeE (checkE P)) := ⟨hfc, hfp⟩
  have hb6 : Below W4.heap.size W4 w6 := hb1.trans (hB6.mono hb1.size)
  have HX6 : Hid (Box3 w6 sb (.slice f1 m1 e1) (.slice f2 m2 e2) (.slice f3 m3 e3)) := HX1.out.below hB6
  have HD6 : Hid (DoP a w6 B1 P zs f1 m1 e1 f2 m2 e2 f3 m3 e3 ev1) := HD1.out.below hB6
  clear p0 p1 p2 hfc hfp HX1 HD1 hB6
  go_upto_region 7 with fail
  obtain ⟨W7, hW7⟩ : ∃ W7, W7 = w6.alloc (fltBox fc fp) := ⟨_, rfl⟩
  have hB7 : Below w6.heap.size w6 W7 := by rw [hW7]; exact below1 w6 _
  have hf7 : W7.heap[w6.heap.size]? = some (fltBox fc fp) := by rw [hW7]; exact heap_new w6 _
  rw [← hW7]
  clear hW7
  obtain ⟨q0, q1⟩ := flt_cells hf7
  cases hc : checkE P with
  | some x =>
    have hrun : runE P zs = checkE P := by unfold runE; rw [hc]
    have HRC : Hid (fc = codeE (runE P zs) ∧ fp = placeE (runE P zs)) := by
      show _ ∧ _
      rw [hrun]; exact HFC.out
    have hcp : 0 < fc := by rw [HRC.out.1]; exact codeE_pos (by rw [hrun, hc]; rfl)
    have hc0 : ¬ fc = 0 := by omega
    have HNB : Hid (runE P zs ≠ none) := by show _ ≠ _; rw [hrun, hc]; exact fun q => by cases q
    have HER : Hid ((runE P zs).isNone = false ∧ ErrV w6 a (runE P zs) ev1 ∧ (f1 = none ∧ m1 = 0 ∧ e1 = 0) ∧ (f2 = none ∧ m2 = 0 ∧ e2 = 0) ∧ (f3 = none ∧ m3 = 0 ∧ e3 = 0)) := by
      rcases HD6.out.is with ⟨r1, _⟩ | r
      · exact absurd r1 HNB.out
      · exact r
    clear hc hrun
    go_wp2_with fail
    go_loopw [14] (fun t wr => t = .int .i64 0 ∧ wr = W7) (fun _ _ => 0)
    case atStart => exact ⟨rfl, rfl⟩
    case round =>
      obtain ⟨rfl, hwr⟩ := hrel
      obtain rfl := hwr.symm
      by_cases hm0 : (0 : Int) < m
      · go_wp2_with fail
        have HBW : Hid (Below w6.heap.size w6 W7) := hB7
        obtain ⟨x0, x1, x2⟩ := HX6.out.below HBW.out
        have KF : Hid (Calls Tryd.prog 12 #[ev1, .agg #[.int .i64 fc, .int .i64 fp]] W7 fun r w' => r = .returned (.bool true) ∧ Below (W7).heap.size W7 w') := faulted_any a (runE P zs) ev1 _ _ _ ((HQ4.out _ (hb6.trans (HBW.out.mono hb6.size))).2.2.1) (HER.out.2.1.below HBW.out) runE_lt HRC.out.1 HRC.out.2
        obtain ⟨⟨rfl, rfl, rfl⟩, ⟨rfl, rfl, rfl⟩, ⟨rfl, rfl, rfl⟩⟩ := HER.out.2.2
        go_wp2_with fail
        refine KF.out.mono ?_
        rintro e w8 ⟨rfl, hB8⟩
        replace x0 := cell_keep hB8 x0
        replace x1 := cell_keep hB8 x1
        replace x2 := cell_keep hB8 x2
        go_wp2_with fail
        go_ret
        exact ⟨rfl, (hB4w.trans ((hb6.trans (HBW.out.mono hb6.size)).mono hB4w.size)).trans (hB8.mono (Nat.le_trans (hB4w.trans (hb6.mono hB4w.size)).size HBW.out.size))⟩
      · go_wp2_with fail
        have HBW : Hid (Below w6.heap.size w6 W7) := hB7
        obtain ⟨x0, x1, x2⟩ := HX6.out.below HBW.out
        have KF : Hid (Calls Tryd.prog 12 #[ev1, .agg #[.int .i64 fc, .int .i64 fp]] W7 fun r w' => r = .returned (.bool true) ∧ Below (W7).heap.size W7 w') := faulted_any a (runE P zs) ev1 _ _ _ ((HQ4.out _ (hb6.trans (HBW.out.mono hb6.size))).2.2.1) (HER.out.2.1.below HBW.out) runE_lt HRC.out.1 HRC.out.2
        obtain ⟨⟨rfl, rfl, rfl⟩, ⟨rfl, rfl, rfl⟩, ⟨rfl, rfl, rfl⟩⟩ := HER.out.2.2
        go_wp2_with fail
        refine KF.out.mono ?_
        rintro e w8 ⟨rfl, hB8⟩
        replace x0 := cell_keep hB8 x0
        replace x1 := cell_keep hB8 x1
        replace x2 := cell_keep hB8 x2
        go_wp2_with fail
        go_ret
        exact ⟨rfl, (hB4w.trans ((hb6.trans (HBW.out.mono hb6.size)).mono hB4w.size)).trans (hB8.mono (Nat.le_trans (hB4w.trans (hb6.mono hB4w.size)).size HBW.out.size))⟩
  | none =>
    have hrun : runE P zs = doneE P.stmts.length zs := by unfold runE; rw [hc]
    obtain rfl : fc = 0 := by rw [HFC.out.1, hc]; rfl
    have HCN : Hid (checkE P = none) := hc
    have hmz := HN.out.2.2.2
    have HZ6 : Hid (∀ wx, Below w6.heap.size w6 wx → ∀ j, j < m → ∃ b o, sa = some ⟨b, o, none⟩ ∧ wx.cell? ⟨b, o + j, none⟩ = some (.int .i64 (zs.getD j 0))) := fun wx hwx j hj => isInts_at (HQ4.out wx (hb6.trans (hwx.mono hb6.size))).2.2.2.1 j (by omega)
    have HP6 : Hid (∀ wx, Below w6.heap.size w6 wx → wx.cell? ⟨w.heap.size, 2, none⟩ = some (.slice a3 n3 c3)) := fun wx hwx => (X4.out.below (hb6.trans (hwx.mono hb6.size))).2.2
    by_cases hd : doneE P.stmts.length zs = none
    case neg =>
      obtain ⟨j0, hj0, hin, hout, hde⟩ := doneE_bad (by omega) hd
      rw [hde] at hrun
      rw [← HN.out.2.2.1] at hin hout
      rw [← hmz] at hj0
      have HRC : Hid ((2 : Int) = codeE (runE P zs) ∧ (j0 : Int) = placeE (runE P zs)) := by
        show _ ∧ _
        rw [hrun]; exact ⟨rfl, rfl⟩
      have HNB : Hid (runE P zs ≠ none) := by show _ ≠ _; rw [hrun]; exact fun q => by cases q
      have HER : Hid ((runE P zs).isNone = false ∧ ErrV w6 a (runE P zs) ev1 ∧ (f1 = none ∧ m1 = 0 ∧ e1 = 0) ∧ (f2 = none ∧ m2 = 0 ∧ e2 = 0) ∧ (f3 = none ∧ m3 = 0 ∧ e3 = 0)) := by
        rcases HD6.out.is with ⟨r1, _⟩ | r
        · exact absurd r1 HNB.out
        · exact r
      have HIN : Hid (∀ i, i < j0 → 0 ≤ zs.getD i 0 ∧ zs.getD i 0 < (n3 : Int)) := hin
      have HOUT : Hid (¬ (0 ≤ zs.getD j0 0 ∧ zs.getD j0 0 < (n3 : Int))) := hout
      clear hc hrun hd hde hin hout hmz
      go_wp2_with fail
      clear q0 q1
      go_loopw [14] (fun t wr => ∃ k : Nat, t = .int .i64 k ∧ ((k ≤ j0 ∧ wr.heap[w6.heap.size]? = some (fltBox 0 fp)) ∨ (k = j0 + 1 ∧ wr.heap[w6.heap.size]? = some (fltBox 2 (j0 : Int)))) ∧ Below w6.heap.size w6 wr) (fun t _ => (m - intOf t).toNat)
      case atStart => exact ⟨0, rfl, Or.inl ⟨Nat.zero_le _, hf7⟩, hB7⟩
      case round =>
        obtain ⟨k, rfl, hcase, hwr⟩ := hrel
        rcases hcase with ⟨hk, hflt⟩ | ⟨rfl, hflt⟩
        · obtain ⟨q0, q1⟩ := flt_cells hflt
          have hlt : k < m := by omega
          have hki : (k : Int) < m := by omega
          obtain ⟨b, o, rfl, e0⟩ := HZ6.out wr hwr k hlt
          have x2 := HP6.out wr hwr
          obtain ⟨z, hzz⟩ : ∃ z, z = zs.getD k 0 := ⟨_, rfl⟩
          rw [← hzz] at e0
          by_cases hkj : k = j0
          · subst hkj
            have hzo := HOUT.out
            rw [← hzz] at hzo
            clear hzz
            by_cases hz0 : z < 0
            · have hzd : decide (z < 0) = true := decide_eq_true hz0
              go_upto_region 12 with fail
              go_quiet (fail)
              generalize hwq : World.drewN wr _ = wq
              have hBq : Below wr.heap.size wr wq := by rw [← hwq]; exact below_drewN (Below.refl _ _) _
              clear hwq
              have hfq := block_keep hBq hflt
              have fz0 := frozen_of_block hfq 0
              have fz1 := frozen_of_block hfq 1
              have HWQ : Hid (Below w6.heap.size w6 wq) := hwr.trans (hBq.mono hwr.size)
              replace q0 := cell_keep hBq q0
              replace q1 := cell_keep hBq q1
              clear hBq
              go_wp2_with fail
              go_roundw
              case rel => exact ⟨k + 1, by go_num, Or.inr ⟨rfl, flt_set hfq 2 (k : Int)⟩, (HWQ.out.setCell (Nat.le_refl _) _).setCell (Nat.le_refl _) _⟩
              case measure => simp [intOf]; omega
            · have hzd : decide (z < 0) = false := decide_eq_false hz0
              have hzn : (n3 : Int) ≤ z := by omega
              go_upto_region 12 with fail
              go_quiet (fail)
              generalize hwq : World.drewN wr _ = wq
              have hBq : Below wr.heap.size wr wq := by rw [← hwq]; exact below_drewN (Below.refl _ _) _
              clear hwq
              have hfq := block_keep hBq hflt
              have fz0 := frozen_of_block hfq 0
              have fz1 := frozen_of_block hfq 1
              have HWQ : Hid (Below w6.heap.size w6 wq) := hwr.trans (hBq.mono hwr.size)
              replace q0 := cell_keep hBq q0
              replace q1 := cell_keep hBq q1
              clear hBq
              go_wp2_with fail
              go_roundw
              case rel => exact ⟨k + 1, by go_num, Or.inr ⟨rfl, flt_set hfq 2 (k : Int)⟩, (HWQ.out.setCell (Nat.le_refl _) _).setCell (Nat.le_refl _) _⟩
              case measure => simp [intOf]; omega
          · obtain ⟨i0, i1⟩ := HIN.out k (by omega)
            rw [← hzz] at i0 i1
            have hz0 : ¬ z < 0 := by omega
            have hzd : decide (z < 0) = false := decide_eq_false hz0
            have hzn : ¬ (n3 : Int) ≤ z := by omega
            clear hzz
            go_upto_region 12 with fail
            go_quiet (fail)
            go_wp2_with fail
            go_roundw
            case rel => exact ⟨k + 1, by go_num, Or.inl ⟨by omega, hflt⟩, below_drewN hwr _⟩
            case measure => simp [intOf]; omega
        · obtain ⟨q0, q1⟩ := flt_cells hflt
          by_cases hm1 : ((j0 + 1 : Nat) : Int) < m
          · go_wp2_with fail
            have HBW : Hid (Below w6.heap.size w6 wr) := hwr
            obtain ⟨x0, x1, x2⟩ := HX6.out.below HBW.out
            have KF : Hid (Calls Tryd.prog 12 #[ev1, .agg #[.int .i64 2, .int .i64 (j0 : Int)]] wr fun r w' => r = .returned (.bool true) ∧ Below (wr).heap.size wr w') := faulted_any a (runE P zs) ev1 _ _ _ ((HQ4.out _ (hb6.trans (HBW.out.mono hb6.size))).2.2.1) (HER.out.2.1.below HBW.out) runE_lt HRC.out.1 HRC.out.2
            obtain ⟨⟨rfl, rfl, rfl⟩, ⟨rfl, rfl, rfl⟩, ⟨rfl, rfl, rfl⟩⟩ := HER.out.2.2
            go_wp2_with fail
            refine KF.out.mono ?_
            rintro e w8 ⟨rfl, hB8⟩
            replace x0 := cell_keep hB8 x0
            replace x1 := cell_keep hB8 x1
            replace x2 := cell_keep hB8 x2
            go_wp2_with fail
            go_ret
            exact ⟨rfl, (hB4w.trans ((hb6.trans (HBW.out.mono hb6.size)).mono hB4w.size)).trans (hB8.mono (Nat.le_trans (hB4w.trans (hb6.mono hB4w.size)).size HBW.out.size))⟩
          · go_wp2_with fail
            have HBW : Hid (Below w6.heap.size w6 wr) := hwr
            obtain ⟨x0, x1, x2⟩ := HX6.out.below HBW.out
            have KF : Hid (Calls Tryd.prog 12 #[ev1, .agg #[.int .i64 2, .int .i64 (j0 : Int)]] wr fun r w' => r = .returned (.bool true) ∧ Below (wr).heap.size wr w') := faulted_any a (runE P zs) ev1 _ _ _ ((HQ4.out _ (hb6.trans (HBW.out.mono hb6.size))).2.2.1) (HER.out.2.1.below HBW.out) runE_lt HRC.out.1 HRC.out.2
            obtain ⟨⟨rfl, rfl, rfl⟩, ⟨rfl, rfl, rfl⟩, ⟨rfl, rfl, rfl⟩⟩ := HER.out.2.2
            go_wp2_with fail
            refine KF.out.mono ?_
            rintro e w8 ⟨rfl, hB8⟩
            replace x0 := cell_keep hB8 x0
            replace x1 := cell_keep hB8 x1
            replace x2 := cell_keep hB8 x2
            go_wp2_with fail
            go_ret
            exact ⟨rfl, (hB4w.trans ((hb6.trans (HBW.out.mono hb6.size)).mono hB4w.size)).trans (hB8.mono (Nat.le_trans (hB4w.trans (hb6.mono hB4w.size)).size HBW.out.size))⟩
    case pos =>
      obtain ⟨-, hin⟩ := doneE_none hd
      rw [hd] at hrun
      have HIN : Hid (∀ i, i < m → 0 ≤ zs.getD i 0 ∧ zs.getD i 0 < (n3 : Int)) := fun i hi => by rw [HN.out.2.2.1]; exact hin i (by omega)
      have HGD : Hid (ev1 = .nilIface ∧ IsVals w6 (.slice f1 m1 e1) (doD P zs).vars ∧ IsVals w6 (.slice f2 m2 e2) (doD P zs).things ∧ IsCap w6 (.slice f3 m3 e3) (doD P zs).places) := by
        rcases HD6.out.is with ⟨_, r⟩ | ⟨r, _⟩
        · exact r
        · rw [hrun] at r; cases r
      clear hc hrun hd hin hmz HD6
      go_wp2_with fail
      clear q0 q1
      go_loopw [14] (fun t wr => ∃ k : Nat, k ≤ m ∧ t = .int .i64 k ∧ wr.heap[w6.heap.size]? = some (fltBox 0 fp) ∧ Below w6.heap.size w6 wr) (fun t _ => (m - intOf t).toNat)
      case atStart => exact ⟨0, Nat.zero_le _, rfl, hf7, hB7⟩
      case round =>
        obtain ⟨k, hk, rfl, hflt, hwr⟩ := hrel
        obtain ⟨q0, q1⟩ := flt_cells hflt
        by_cases hlt : k < m
        · have hki : (k : Int) < m := by omega
          obtain ⟨b, o, rfl, e0⟩ := HZ6.out wr hwr k hlt
          have x2 := HP6.out wr hwr
          obtain ⟨i0, i1⟩ := HIN.out k hlt
          obtain ⟨z, hzz⟩ : ∃ z, z = zs.getD k 0 := ⟨_, rfl⟩
          rw [← hzz] at e0 i0 i1
          have hz0 : ¬ z < 0 := by omega
          have hzd : decide (z < 0) = false := decide_eq_false hz0
          have hzn : ¬ (n3 : Int) ≤ z := by omega
          clear hzz
          go_upto_region 12 with fail
          go_quiet (fail)
          go_wp2_with fail
          go_roundw
          case rel => exact ⟨k + 1, hlt, by go_num, hflt, below_drewN hwr _⟩
          case measure => simp [intOf]; omega
        · have hkm : ¬ (k : Int) < m := by omega
          obtain ⟨V, hV⟩ : ∃ V, V = wr := ⟨_, rfl⟩
          rw [← hV] at hwr q0 q1 ⊢
          clear hV hflt
          have hbV : Below W4.heap.size W4 V := hb6.trans (hwr.mono hb6.size)
          obtain ⟨p0, p1, p2⟩ := X4.out.below hbV
          go_wp2_with fail
          refine (begin_any P _ _ _ V HS.out.1 (HQ4.out V hbV).2.1).mono ?_
          rintro e w9 ⟨mb, Bt, xv, rfl, hst, hB9⟩
          clear p0 p1 p2 q0 q1
          have HPC : Hid (∀ wx, Below V.heap.size V wx → Box3 wx w.heap.size (.slice a1 n1 c1) (.slice a2 n2 c2) (.slice a3 n3 c3) ∧ Box3 wx qb (.slice b1 n1 d1) (.slice b2 n2 d2) (.slice b3 n3 d3) ∧ Box3 wx sb (.slice f1 m1 e1) (.slice f2 m2 e2) (.slice f3 m3 e3)) := fun wx hwx => ⟨(X4.out.below hbV).below hwx, (XQ4.out.below hbV).below hwx, (HX6.out.below hwr).below hwx⟩
          have HZV : Hid (∀ wx, Below V.heap.size V wx → ∀ j, j < m → ∃ b o, sa = some ⟨b, o, none⟩ ∧ wx.cell? ⟨b, o + j, none⟩ = some (.int .i64 (zs.getD j 0))) := fun wx hwx j hj => HZ6.out wx (hwr.trans (hwx.mono hwr.size)) j hj
          have HQV : Hid (∀ wx, Below V.heap.size V wx → IsProg wx (.slice b1 n1 d1) (.slice b2 n2 d2) (.slice b3 n3 d3) P ∧ IsProg wx (.slice a1 n1 c1) (.slice a2 n2 c2) (.slice a3 n3 c3) P ∧ Errs wx a ∧ IsVals wx (.slice f1 m1 e1) (doD P zs).vars ∧ IsVals wx (.slice f2 m2 e2) (doD P zs).things ∧ IsCap wx (.slice f3 m3 e3) (doD P zs).places) := fun wx hwx => by
            obtain ⟨r1, r2, r3, -⟩ := HQ4.out wx (hbV.trans (hwx.mono hbV.size))
            have hw6 := hwr.trans (hwx.mono hwr.size)
            exact ⟨r1, r2, r3, HGD.out.2.1.below hw6, HGD.out.2.2.1.below hw6, HGD.out.2.2.2.below hw6⟩
          have HRT : Hid (Right P ∧ ∀ k, k ≤ m → (doD P (zs.take k)).things.length ≤ 1000000) := by
            refine ⟨right_of HCN.out, fun k hk => ?_⟩
            have := do_things P zs k (by rw [← HN.out.2.2.2]; exact hk)
            omega
          have HST0 : Hid (RSt w9 V.heap.size Bt mb P.vars.length (doD P (zs.take 0)) xv (.slice none 0 0) (.slice none 0 0) ∧ StOk P.vars.length P.funs.length (doD P (zs.take 0))) := by
            refine ⟨hst, ⟨fun r hr => ?_, fun r hr => ?_⟩⟩
            · have : r = none := by
                have hr' : r ∈ List.replicate P.vars.length none := hr
                exact (List.mem_replicate.1 hr').2
              rw [this]; intro x hx; cases hx
            · have hr' : r ∈ ([] : List (Option Ref)) := hr
              cases hr'
          have HBV : Hid (Below w.heap.size w V) := hB4w.trans (hbV.mono hB4w.size)
          obtain ⟨rfl, -⟩ := HGD.out
          clear hst hk hlt hkm HZ6 HP6 hwr hbV HX6 XQ4 X4 hf7 hB7 HQ4 hb6 hB4w hb1 HFC
          go_wp2_with fail
          go_loopw [16] (fun t wr => ∃ k : Nat, k ≤ m ∧ t = .int .i64 k ∧ (∃ xt xp, RSt wr V.heap.size Bt mb P.vars.length (doD P (zs.take k)) xv xt xp) ∧ StOk P.vars.length P.funs.length (doD P (zs.take k)) ∧ Below V.heap.size V wr) (fun t _ => (m - intOf t).toNat)
          case atStart => exact ⟨0, Nat.zero_le _, rfl, ⟨_, _, HST0.out.1⟩, HST0.out.2, hB9⟩
          case round =>
            clear HST0 hB9
            obtain ⟨k, hk, rfl, ⟨xt, xp, hst⟩, hok, hwr⟩ := hrel
            by_cases hlt : k < m
            · have hki : (k : Int) < m := by omega
              obtain ⟨b, o, rfl, e0⟩ := HZV.out V (Below.refl _ _) k hlt
              obtain ⟨i0, i1⟩ := HIN.out k hlt
              obtain ⟨zn, hzn⟩ : ∃ n, n = (zs.getD k 0).toNat := ⟨_, rfl⟩
              have hzz : zs.getD k 0 = (zn : Int) := by omega
              have hzl : zn < P.stmts.length := by rw [← HN.out.2.2.1]; omega
              rw [hzz] at e0
              have hkl : k < zs.length := by rw [← HN.out.2.2.2]; exact hlt
              have KS : Hid (∀ wx, Below wr.heap.size wr wx → Calls Tryd.prog 14 #[.pointer (some ⟨mb, 0, none⟩), .agg #[.slice a1 n1 c1, .slice a2 n2 c2, .slice a3 n3 c3], .int .i64 (zn : Int)] wx fun e w' => e = .returned (.tuple #[]) ∧ StOk P.vars.length P.funs.length (doD P (zs.take (k + 1))) ∧ (∃ xt' xp', RSt w' V.heap.size Bt mb P.vars.length (doD P (zs.take (k + 1))) xv xt' xp') ∧ Below V.heap.size V w') := fun wx hwx => by
                have hVx := hwr.trans (hwx.mono hwr.size)
                rw [doD_snoc P zs k hkl, ← hzn]
                refine (doR_any P (hst.below hwx) hok hVx (HQV.out V (Below.refl _ _)).2.1 HRT.out.1 HS.out.1 zn hzl (HRT.out.2 k hk)).mono ?_
                rintro e w' ⟨r1, r2, xt', xp', r3, r4⟩
                exact ⟨r1, r2, ⟨xt', xp', r3⟩, hVx.trans r4⟩
              have KX : Hid (∀ wx, Below V.heap.size V wx → wx.cell? ⟨w.heap.size, 0, none⟩ = some (.slice a1 n1 c1) ∧ wx.cell? ⟨w.heap.size, 1, none⟩ = some (.slice a2 n2 c2) ∧ wx.cell? ⟨w.heap.size, 2, none⟩ = some (.slice a3 n3 c3) ∧ wx.cell? ⟨b, o + k, none⟩ = some (.int .i64 (zn : Int))) := fun wx hwx => by
                obtain ⟨r0, r1, r2⟩ := (HPC.out wx hwx).1
                exact ⟨r0, r1, r2, cell_keep hwx e0⟩
              clear e0 hzl hzz hzn i0 i1 hkl hst hok
              go_upto_region 20 with fail
              go_region_held3 (fun wx => wx.cell? ⟨w.heap.size, 0, none⟩ = some (.slice a1 n1 c1) ∧ wx.cell? ⟨w.heap.size, 1, none⟩ = some (.slice a2 n2 c2) ∧ wx.cell? ⟨w.heap.size, 2, none⟩ = some (.slice a3 n3 c3) ∧ wx.cell? ⟨b, o + k, none⟩ = some (.int .i64 (zn : Int)))
                ((go_split_ands; refine KX.out _ ?_; repeat (with_reducible first | exact hwr | exact hb10 | refine Below.drew ?_)))
                (first | (go_at_call 14; refine (KS.out _ ?_).mono ?_; (first | exact Below.refl _ _ | exact (Below.refl _ _).drew); rintro e w10 ⟨rfl, hok10, ⟨xt10, xp10, hst10⟩, hb10⟩))
              go_wp2_with fail
              go_roundw
              case rel => first | exact ⟨k + 1, hlt, by go_num, ⟨_, _, hst10⟩, hok10, hb10⟩ | exact ⟨k + 1, hlt, by go_num, ⟨_, _, hst10.below (Below.refl _ _).drew⟩, hok10, hb10.drew⟩
              case measure => simp [intOf]; omega
            · have hkm : k = m := by omega
              subst hkm
              have htk : zs.take k = zs := by rw [HN.out.2.2.2]; exact List.take_length
              rw [htk] at hst hok
              obtain ⟨U, hU⟩ : ∃ U, U = wr := ⟨_, rfl⟩
              rw [← hU] at hst hwr ⊢
              clear hU htk hok
              obtain ⟨⟨p0, p1, p2⟩, ⟨y0, y1, y2⟩, ⟨x0, x1, x2⟩⟩ := HPC.out U hwr
              obtain ⟨-, -, -, hv1, hv2, hv3⟩ := HQV.out U hwr
              obtain ⟨ta, tcap, rfl⟩ := owns_form hst.rt
              have HPL : Hid (IsInts U xp (doD P zs).places) := isInts_owns hst.rp
              have hth : (doD P zs).things.length ≤ 1000000 := by
                have := HRT.out.2 k (Nat.le_refl _)
                rw [show zs.take k = zs by rw [HN.out.2.2.2]; exact List.take_length] at this
                exact this
              have KSS : Hid (∀ wx, Below U.heap.size U wx → Calls Tryd.prog 15 #[.agg #[.slice f1 m1 e1, .slice f2 m2 e2, .slice f3 m3 e3], .pointer (some ⟨mb, 0, none⟩)] wx fun e w' => e = .returned (.bool true) ∧ Below wx.heap.size wx w') := fun wx hwx => sameState_true (hst.below hwx) (HPL.out.below hwx) (hv1.below hwx) (hv2.below hwx) (hv3.1.below hwx) (by have := HS.out.1.1; omega) hth
              have KOB : Hid (∀ wx K N, Below U.heap.size U wx → Calls Tryd.prog 16 #[.agg #[.slice b1 n1 d1, .slice b2 n2 d2, .slice b3 n3 d3], .agg #[.slice f1 m1 e1, .slice f2 m2 e2, .slice f3 m3 e3], .agg #[.string K, .int .i64 N]] wx fun e w' => e = .returned (.int .i64 (objV P (doD P zs).places K.toList N)) ∧ Below wx.heap.size wx w') := fun wx K N hwx => by
                obtain ⟨r1, -, r3, -⟩ := HQV.out wx (hwr.trans (hwx.mono hwr.size))
                exact object_any a P _ _ _ _ _ _ _ K N wx HS.out.1 r1 r3.five HCN.out (hv3.1.below hwx)
              have KRO : Hid (∀ wx K N, Below U.heap.size U wx → Calls Tryd.prog 17 #[.pointer (some ⟨mb, 0, none⟩), .agg #[.slice a1 n1 c1, .slice a2 n2 c2, .slice a3 n3 c3], .agg #[.string K, .int .i64 N]] wx fun e w' => e = .returned (.int .i64 (objV P (doD P zs).places K.toList N)) ∧ Below wx.heap.size wx w') := fun wx K N hwx => by
                obtain ⟨-, r2, -⟩ := HQV.out wx (hwr.trans (hwx.mono hwr.size))
                exact refObject_any P _ _ _ mb xp _ K N wx HS.out.1 r2 HCN.out (hst.below hwx).cells.2.2 (HPL.out.below hwx)
              obtain ⟨g1, gc, hge, hg⟩ := hv1
              obtain ⟨hf1e, hm1e, he1e⟩ : f1 = some ⟨g1, 0, none⟩ ∧ m1 = (doD P zs).vars.length ∧ e1 = gc := by injection hge with q1 q2 q3; exact ⟨q1, q2, q3⟩
              subst hf1e
              have hlv : (doD P zs).vars.length = n1 := by rw [HN.out.1]; exact hst.ls
              have hm1n : m1 = n1 := by omega
              subst hm1n
              obtain ⟨va, vc, rfl⟩ := owns_form hst.rv
              have mv0 : U.cell? ⟨mb, 0, none⟩ = some (.slice va m1 vc) := by rw [HN.out.1]; exact hst.cells.1
              have KV : Hid (∀ wx, Below U.heap.size U wx → ∀ j, j < m1 → ∃ g K N, va = some ⟨g, 0, none⟩ ∧ wx.cell? ⟨g, j * 2, none⟩ = some (.string K) ∧ wx.cell? ⟨g, j * 2 + 1, none⟩ = some (.int .i64 N) ∧ wx.cell? ⟨g1, j * 2, none⟩ = some (.string K) ∧ wx.cell? ⟨g1, j * 2 + 1, none⟩ = some (.int .i64 N)) := fun wx hb j hj => by
                obtain ⟨g, cap, cs, e, -, -, -, -, hrow⟩ := hst.vrow (by rw [← HN.out.1]; omega)
                obtain ⟨t0, t1⟩ := hrow j (by rw [← HN.out.1]; omega)
                obtain ⟨r0, r1⟩ := hg j (by omega)
                exact ⟨g, _, _, (Value.slice.inj e).1, cell_keep hb t0, cell_keep hb t1, cell_keep hb r0, cell_keep hb r1⟩
              have HCS : Hid (∀ wx, Below U.heap.size U wx → Box3 wx w.heap.size (.slice a1 m1 c1) (.slice a2 n2 c2) (.slice a3 n3 c3) ∧ Box3 wx qb (.slice b1 m1 d1) (.slice b2 n2 d2) (.slice b3 n3 d3) ∧ Box3 wx sb (.slice (some ⟨g1, 0, none⟩) m1 e1) (.slice f2 m2 e2) (.slice f3 m3 e3) ∧ wx.cell? ⟨mb, 0, none⟩ = some (.slice va m1 vc)) := fun wx hwx => by
                obtain ⟨r1, r2, r3⟩ := HPC.out wx (hwr.trans (hwx.mono hwr.size))
                exact ⟨r1, r2, r3, cell_keep hwx mv0⟩
              have hm1b : m1 ≤ 1000000 := by have := HS.out.1.1; have := HN.out.1; omega
              have HBU : Hid (Below w.heap.size w U) := HBV.out.trans (hwr.mono HBV.out.size)
              have KJ1 : ∀ d os, Calls Tryd.prog 15 #[.agg #[.slice (some ⟨g1, 0, none⟩) m1 e1, .slice f2 m2 e2, .slice f3 m3 e3], .pointer (some ⟨mb, 0, none⟩)] (Go.Sort.grow (redrawn U d) os) fun e w'' => e = .returned (.bool true) ∧ ∃ p : Regrown, w'' = Go.Sort.grow (redrawn U p.d) p.os := fun d os => Calls.regrown_of (KSS.out _ (below_regrown U d os))
              obtain ⟨R, hR⟩ : ∃ R, R = objV P (doD P zs).places K.toList N := ⟨_, rfl⟩
              have KJ2 : ∀ d os, Calls Tryd.prog 16 #[.agg #[.slice b1 m1 d1, .slice b2 n2 d2, .slice b3 n3 d3], .agg #[.slice (some ⟨g1, 0, none⟩) m1 e1, .slice f2 m2 e2, .slice f3 m3 e3], .agg #[.string K, .int .i64 N]] (Go.Sort.grow (redrawn U d) os) fun e w'' => e = .returned (.int .i64 R) ∧ ∃ p : Regrown, w'' = Go.Sort.grow (redrawn U p.d) p.os := fun d os => by
                rw [hR]
                exact Calls.regrown_of (KOB.out _ K N (below_regrown U d os))
              have KJ3 : ∀ d os, Calls Tryd.prog 17 #[.pointer (some ⟨mb, 0, none⟩), .agg #[.slice a1 m1 c1, .slice a2 n2 c2, .slice a3 n3 c3], .agg #[.string K, .int .i64 N]] (Go.Sort.grow (redrawn U d) os) fun e w'' => e = .returned (.int .i64 R) ∧ ∃ p : Regrown, w'' = Go.Sort.grow (redrawn U p.d) p.os := fun d os => by
                rw [hR]
                exact Calls.regrown_of (KRO.out _ K N (below_regrown U d os))
              have P0 := cell_regrown p0
              have P1 := cell_regrown p1
              have P2 := cell_regrown p2
              have Y0 := cell_regrown y0
              have Y1 := cell_regrown y1
              have Y2 := cell_regrown y2
              have X0 := cell_regrown x0
              have X1 := cell_regrown x1
              have X2 := cell_regrown x2
              clear hR hst hg hge hlv hm1e he1e hv2 hv3 hwr mv0 hth KSS HPL HPC HQV HZV HIN HGD HRT HBV hk hlt
              go_upto_region 21 with fail
              refine wp_region_quiet_below (by kernel_rfl) (by kernel_rfl) ?_
              repeat (quiet_step (first | exact KJ1 _ _ | exact KJ2 _ _ | exact KJ3 _ _))
              refine wpQuiet_nil ?_
              intro _ hw'
              obtain ⟨⟨dq, osq⟩, hw''⟩ := hw'
              subst hw''
              obtain ⟨U2, hU2⟩ : ∃ U2, U2 = Go.Sort.grow (redrawn U dq) osq := ⟨_, rfl⟩
              have hB2 : Below U.heap.size U U2 := by rw [hU2]; exact below_regrown U dq osq
              rw [← hU2]
              clear hU2 KJ1 KJ2 KJ3 P0 P1 P2 X0 X1 X2 Y0 Y1 Y2 p0 p1 p2 x0 x1 x2 y0 y1 y2
              go_wp2_with fail
              go_loopw [17] (fun t wr => ∃ j : Nat, j ≤ m1 ∧ t = .int .i64 j ∧ Below U.heap.size U wr) (fun t _ => (m1 - intOf t).toNat)
              case atStart => exact ⟨0, Nat.zero_le _, rfl, hB2⟩
              case round =>
                clear hB2
                obtain ⟨j, hj, rfl, hwr⟩ := hrel
                obtain ⟨⟨p0, p1, p2⟩, ⟨y0, y1, y2⟩, ⟨x0, x1, x2⟩, mv0⟩ := HCS.out wr hwr
                by_cases hlt : j < m1
                · have hji : (j : Int) < m1 := by omega
                  obtain ⟨g, Kj, Nj, rfl, t0, t1, s0, s1⟩ := KV.out wr hwr j hlt
                  obtain ⟨R, hR⟩ : ∃ R, R = objV P (doD P zs).places Kj.toList Nj := ⟨_, rfl⟩
                  have KJ2 : ∀ d os, Calls Tryd.prog 16 #[.agg #[.slice b1 m1 d1, .slice b2 n2 d2, .slice b3 n3 d3], .agg #[.slice (some ⟨g1, 0, none⟩) m1 e1, .slice f2 m2 e2, .slice f3 m3 e3], .agg #[.string Kj, .int .i64 Nj]] (Go.Sort.grow (redrawn wr d) os) fun e w'' => e = .returned (.int .i64 R) ∧ ∃ p : Regrown, w'' = Go.Sort.grow (redrawn wr p.d) p.os := fun d os => by
                    rw [hR]
                    exact Calls.regrown_of (KOB.out _ Kj Nj (hwr.trans ((below_regrown wr d os).mono hwr.size)))
                  have KJ3 : ∀ d os, Calls Tryd.prog 17 #[.pointer (some ⟨mb, 0, none⟩), .agg #[.slice a1 m1 c1, .slice a2 n2 c2, .slice a3 n3 c3], .agg #[.string Kj, .int .i64 Nj]] (Go.Sort.grow (redrawn wr d) os) fun e w'' => e = .returned (.int .i64 R) ∧ ∃ p : Regrown, w'' = Go.Sort.grow (redrawn wr p.d) p.os := fun d os => by
                    rw [hR]
                    exact Calls.regrown_of (KRO.out _ Kj Nj (hwr.trans ((below_regrown wr d os).mono hwr.size)))
                  have P0 := cell_regrown p0
                  have P1 := cell_regrown p1
                  have P2 := cell_regrown p2
                  have Y0 := cell_regrown y0
                  have Y1 := cell_regrown y1
                  have Y2 := cell_regrown y2
                  have X0 := cell_regrown x0
                  have X1 := cell_regrown x1
                  have X2 := cell_regrown x2
                  have M0 := cell_regrown mv0
                  have T0 := cell_regrown t0
                  have T1 := cell_regrown t1
                  have S0 := cell_regrown s0
                  have S1 := cell_regrown s1
                  clear hR
                  go_upto_region 26 with fail
                  refine wp_region_quiet_below (by kernel_rfl) (by kernel_rfl) ?_
                  repeat (quiet_step (first | exact KJ2 _ _ | exact KJ3 _ _))
                  refine wpQuiet_nil ?_
                  intro _ hw'
                  obtain ⟨⟨dq, osq⟩, hw''⟩ := hw'
                  subst hw''
                  obtain ⟨U3, hU3⟩ : ∃ U3, U3 = Go.Sort.grow (redrawn wr dq) osq := ⟨_, rfl⟩
                  have hB3 : Below wr.heap.size wr U3 := by rw [hU3]; exact below_regrown wr dq osq
                  rw [← hU3]
                  clear hU3
                  go_wp2_with fail
                  go_roundw
                  case rel => exact ⟨j + 1, hlt, by go_num, hwr.trans (hB3.mono hwr.size)⟩
                  case measure => simp [intOf]; omega
                · have hjm : ¬ (j : Int) < m1 := by omega
                  go_wp2_with fail
                  go_ret
                  exact ⟨rfl, HBU.out.trans (hwr.mono HBU.out.size)⟩

theorem runDoes_any (a : Nat → Addr) (P : ProgD) (v1 v2 v3 sv : Value) (zs : List Int) (K : ByteArray) (N : Int) (w : World) (h : IsProg w v1 v2 v3 P) (hz : IsCap w sv zs) (hE : Errs w a) :
    Calls Tryd.prog 3 #[.agg #[v1, v2, v3], sv, .string K, .int .i64 N] w fun e w' => e = .returned (.bool true) ∧ Below w.heap.size w w' := by
  by_cases h1 : zs.length ≤ 200
  · exact runDoes_main a P v1 v2 v3 sv zs K N w h hz hE h1
  · by_cases h2 : zs.length = 2001
    · exact runDoes_full a P v1 v2 v3 sv zs K N w h hz hE h2
    · exact runDoes_long a P v1 v2 v3 sv zs K N w h hz hE ⟨by omega, h2⟩
end Go.Proofs.YtdbcjeccmjpbiabDoor

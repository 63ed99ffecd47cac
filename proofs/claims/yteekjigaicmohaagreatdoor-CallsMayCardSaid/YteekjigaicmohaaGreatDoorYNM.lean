/-
  CallsMay answers true at every program and script that read as plain data.
-/
import Derived.Test.YteekjigaicmohaaGreatDoorZIM
import Derived.Test.YteekjigaicmohaaGreatDoorYLM
import Derived.Test.YteekjigaicmohaaGreatDoorROM
import Derived.Test.YteekjigaicmohaaGreatDoorHB0M
import Derived.Test.YteekjigaicmohaaGreatDoorWithinM
import Derived.Deep.RegionHeld3
import Derived.Lib.QuietBelow
namespace Go.Proofs.YteekjigaicmohaaGreatDoor
open Go.RowKit Go.Extern.Stop Go.Stop Go.Extern

theorem toList_inj {a b : ByteArray} (h : a.toList = b.toList) : a = b := by
  rw [ByteArray.toList_eq, ByteArray.toList_eq] at h
  cases a; cases b; simpa using h
set_option maxRecDepth 100000 in
set_option maxHeartbeats 64000000 in
theorem callsMay_any (a : Nat → Addr) (P : ProgD) (v1 v2 v3 sv : Value) (zs : List Int) (w : World) (h : IsProg w v1 v2 v3 P) (hz : IsCap w sv zs) (hE : Errs5 w a) (h3 : Three w a) :
    Calls Tryz.prog 8 #[.agg #[v1, v2, v3], sv] w fun e w' => e = .returned (.bool true) ∧ Below w.heap.size w w' := by
  have hz' := hz
  have H : Hid (IsProg w v1 v2 v3 P ∧ Errs5 w a ∧ Three w a) := ⟨h, hE, h3⟩
  obtain ⟨-, sa, sc, rfl, hsc⟩ := hz
  obtain ⟨⟨a1, c1, rfl, -, -⟩, ⟨a2, c2, rfl, -, -⟩, ⟨a3, c3, rfl, -, -⟩⟩ := h
  obtain ⟨n1, hn1⟩ : ∃ m, m = P.vars.length := ⟨_, rfl⟩
  obtain ⟨n2, hn2⟩ : ∃ m, m = P.funs.length := ⟨_, rfl⟩
  obtain ⟨n3, hn3⟩ : ∃ m, m = P.stmts.length := ⟨_, rfl⟩
  obtain ⟨m, hm⟩ : ∃ m, m = zs.length := ⟨_, rfl⟩
  have HN : Hid (n1 = P.vars.length ∧ n2 = P.funs.length ∧ n3 = P.stmts.length ∧ m = zs.length ∧ m ≤ sc) := ⟨hn1, hn2, hn3, hm, by rw [hm]; exact hsc⟩
  rw [← hn1, ← hn2, ← hn3] at H ⊢
  rw [← hm] at hz' ⊢
  have HZ : Hid (IsCap w (.slice sa m sc) zs) := hz'
  clear hn1 hn2 hn3 hE h3 hm hsc hz'
  obtain ⟨W, hW⟩ : ∃ W, W = w.alloc (.cells #[.slice a1 n1 c1, .slice a2 n2 c2, .slice a3 n3 c3] 26) := ⟨_, rfl⟩
  have hBW : Below w.heap.size w W := by rw [hW]; exact below1 w _
  have HBX : Hid (Box3 W w.heap.size (.slice a1 n1 c1) (.slice a2 n2 c2) (.slice a3 n3 c3)) := by
    show Box3 W _ _ _ _
    rw [hW]; exact box3_new w _ _ _ _
  have K1 : Hid (Calls Tryz.prog 28 #[] W fun e w' => e = .returned (.bool true) ∧ Below W.heap.size W w') := called_any a W (H.out.2.1.below hBW) (H.out.2.2.below hBW)
  rw [hW] at K1
  go_enter Tryz.func8, Tryz.ntmps8
  go_wp2_with fail
  refine K1.out.mono ?_
  rintro e w1 ⟨rfl, hB1⟩
  rw [← hW] at hB1
  clear K1 hW
  obtain ⟨p0, p1, p2⟩ := HBX.out.below hB1
  have hB1w : Below w.heap.size w w1 := hBW.trans (hB1.mono hBW.size)
  go_wp2_with fail
  refine (large_m 25 (by decide) P _ _ _ w1 (H.out.1.below hB1w)).mono ?_
  rintro e w2 ⟨r, rfl, hr, hB2⟩
  have hB2w : Below w.heap.size w w2 := hB1w.trans (hB2.mono hB1w.size)
  rcases hr with rfl | ⟨rfl, hs1, -, -⟩
  · go_wp2_with fail
    go_ret
    exact ⟨rfl, hB2w⟩
  have HS : Hid (SmallP P) := hs1
  have HX2 : Hid (Box3 w2 w.heap.size (.slice a1 n1 c1) (.slice a2 n2 c2) (.slice a3 n3 c3)) := HBX.out.below (bthenY hB1 hB2)
  clear hs1 p0 p1 p2
  obtain ⟨p0, p1, p2⟩ := HX2.out
  by_cases hm40 : (40 : Int) < m
  · go_wp2_with fail
    go_ret
    exact ⟨rfl, hB2w⟩
  go_wp2_with fail
  refine (ownProgram_any P _ _ _ w2 HS.out (H.out.1.below hB2w)).mono ?_
  rintro e w4 ⟨u1, u2, u3, rfl, hq, hB4⟩
  have HQ : Hid (IsProg w4 u1 u2 u3 P ∧ Below w.heap.size w w4 ∧ Box3 w4 w.heap.size (.slice a1 n1 c1) (.slice a2 n2 c2) (.slice a3 n3 c3)) := ⟨hq, bthenY hB2w hB4, HX2.out.below hB4⟩
  obtain ⟨⟨b1, d1, rfl, -, -⟩, ⟨b2, d2, rfl, -, -⟩, ⟨b3, d3, rfl, -, -⟩⟩ := hq
  rw [← HN.out.1, ← HN.out.2.1, ← HN.out.2.2.1] at HQ ⊢
  clear p0 p1 p2 hB1 hB2 hB4 hB1w hB2w hBW HBX HX2
  go_upto_region 5 with fail
  obtain ⟨W5, hW5⟩ : ∃ W5, W5 = w4.alloc (.cells #[.slice b1 n1 d1, .slice b2 n2 d2, .slice b3 n3 d3] 26) := ⟨_, rfl⟩
  have hB45 : Below w4.heap.size w4 W5 := by rw [hW5]; exact below1 w4 _
  have hX5 : Box3 W5 w4.heap.size (.slice b1 n1 d1) (.slice b2 n2 d2) (.slice b3 n3 d3) := by rw [hW5]; exact box3_new w4 _ _ _ _
  rw [← hW5]
  clear hW5
  obtain ⟨qb, hqb⟩ : ∃ b, b = w4.heap.size := ⟨_, rfl⟩
  rw [← hqb] at hX5 ⊢
  clear hqb
  have K5 : Hid (∀ wx, Below W5.heap.size W5 wx → Box3 wx qb (.slice b1 n1 d1) (.slice b2 n2 d2) (.slice b3 n3 d3) ∧ IsProg wx (.slice b1 n1 d1) (.slice b2 n2 d2) (.slice b3 n3 d3) P ∧ Box3 wx w.heap.size (.slice a1 n1 c1) (.slice a2 n2 c2) (.slice a3 n3 c3) ∧ Errs5 wx a ∧ Three wx a ∧ IsCap wx (.slice sa m sc) zs ∧ Below w.heap.size w wx) := fun wx hx => by
    have h4 : Below w4.heap.size w4 wx := bthenY hB45 hx
    have hw : Below w.heap.size w wx := bthenY HQ.out.2.1 h4
    exact ⟨hX5.below hx, HQ.out.1.below h4, HQ.out.2.2.below h4, H.out.2.1.below hw, H.out.2.2.below hw, HZ.out.below hw, hw⟩
  clear hB45 hX5 HQ
  obtain ⟨⟨y0, y1, y2⟩, -⟩ := K5.out W5 (Below.refl _ _)
  have KI : Hid _ := idle_any a P _ _ _ W5 HS.out (K5.out W5 (Below.refl _ _)).2.1 (K5.out W5 (Below.refl _ _)).2.2.2.1 (K5.out W5 (Below.refl _ _)).2.2.2.2.1
  go_wp2_with fail
  refine Calls.mono KI.out ?_
  rintro e w7 ⟨ia, inn, ic, ev, rfl, hcs, hb7⟩
  clear KI y0 y1 y2
  rcases hcs with ⟨hck, rfl, L, hL, hi⟩ | ⟨-, hnil, ⟨t, p, rfl⟩, -⟩
  case inr =>
    injection hnil with q1 q2 q3
    subst q1 q2 q3
    have HBF : Hid (Below w.heap.size w w7) := (K5.out w7 hb7).2.2.2.2.2.2
    clear hb7
    go_wp2_with fail
    go_ret
    exact ⟨rfl, HBF.out⟩
  have HL : Hid (checkE P = none ∧ LeastL P L ∧ Cl P L ∧ Good P L ∧ IsInts w7 (.slice ia inn ic) (pickK (idK P L) P.stmts.length) ∧ Below W5.heap.size W5 w7) := ⟨hck, hL, hL.cl hck, hL.good hck, hi, hb7⟩
  have hm40' : m ≤ 40 := by omega
  clear hck hL hi hb7 hm40
  have KO : Hid (∀ w0 wx j, j ≤ m → Below w7.heap.size w7 w0 → Below w0.heap.size w0 wx → Calls Tryz.prog 38 #[.slice sa j sc] wx fun e w' => ∃ pa pc, e = .returned (.slice pa j pc) ∧ IsInts w' (.slice pa j pc) (zs.take j) ∧ Below w0.heap.size w0 w' ∧ Below wx.heap.size wx w') := fun w0 wx j hj h0 hwx => by
    have hmz := HN.out.2.2.2.1
    have hl : (zs.take j).length = j := by simp; omega
    have hwx4 := h0.trans (hwx.mono h0.size)
    have hwx5 := bthenY HL.out.2.2.2.2.2 hwx4
    refine (ownInts_row (zs.take j) (.slice sa j sc) wx (by omega) (isCap_take (K5.out wx hwx5).2.2.2.2.2.1 j (by omega)).1).mono ?_
    rintro e w' ⟨pa, pc, rfl, ho, hb⟩
    rw [hl] at ho ⊢
    exact ⟨pa, pc, rfl, isInts_owns ho, hwx.trans (hb.mono hwx.size), hb⟩
  have KD : Hid (∀ w0 wx j pa pc, j ≤ m → Below w7.heap.size w7 w0 → Below w0.heap.size w0 wx → IsInts wx (.slice pa j pc) (zs.take j) → Calls Tryz.prog 37 #[.agg #[.slice b1 n1 d1, .slice b2 n2 d2, .slice b3 n3 d3], .slice pa j pc] wx fun e w' => ∃ a1 m1 c1 a2 m2 c2 a3 m3 c3 ev, e = .returned (.tuple #[.agg #[.slice a1 m1 c1, .slice a2 m2 c2, .slice a3 m3 c3], ev]) ∧ DoPost w' wx.heap.size P (zs.take j) a1 m1 c1 a2 m2 c2 a3 m3 c3 ev ∧ Below w0.heap.size w0 w' ∧ Below wx.heap.size wx w') := fun w0 wx j pa pc hj h0 hwx hi => by
    have hwx4 := h0.trans (hwx.mono h0.size)
    have hwx5 := bthenY HL.out.2.2.2.2.2 hwx4
    refine (do_any a P _ _ _ _ (zs.take j) wx HS.out (K5.out wx hwx5).2.1 (K5.out wx hwx5).2.2.2.1 hi (by simp; omega)).mono ?_
    rintro e w' ⟨x1, x2, x3, x4, x5, x6, x7, x8, x9, ev, rfl, hd, hb⟩
    exact ⟨x1, x2, x3, x4, x5, x6, x7, x8, x9, ev, rfl, hd, hwx.trans (hb.mono hwx.size), hb⟩
  go_wp2_with fail
  go_loopw [9] (fun t wr => ∃ i : Nat, i ≤ m ∧ t = .int .i64 i ∧ Below w7.heap.size w7 wr) (fun t _ => (m - intOf t).toNat)
  case atStart => exact ⟨0, Nat.zero_le _, rfl, Below.refl _ _⟩
  case round =>
    obtain ⟨i, hi, rfl, hwr⟩ := hrel
    by_cases hlt : i < m
    case neg =>
      have HBF : Hid (Below w.heap.size w wr) := (K5.out wr (bthenY HL.out.2.2.2.2.2 hwr)).2.2.2.2.2.2
      clear hwr
      go_wp2_with fail
      go_ret
      exact ⟨rfl, HBF.out⟩
    case pos =>
    have hii : (i : Int) < m := by omega
    have HWR : Hid (Below w7.heap.size w7 wr ∧ Below W5.heap.size W5 wr) := ⟨hwr, bthenY HL.out.2.2.2.2.2 hwr⟩
    obtain ⟨⟨y0, y1, y2⟩, -⟩ := K5.out wr HWR.out.2
    have hisc : i ≤ sc := by have := HN.out.2.2.2.2; omega
    have him : i ≤ m := hi
    clear hwr
    go_upto_region 11 with fail
    obtain ⟨W4, rfl⟩ : ∃ W4, W4 = wr := ⟨_, rfl⟩
    go_cut [10, 11] (fun s9 s10 wx => ∃ sb B f1 m1 e1 f2 m2 e2 f3 m3 e3, s9 = .pointer (some ⟨sb, 0, none⟩) ∧ Box3 wx sb (.slice f1 m1 e1) (.slice f2 m2 e2) (.slice f3 m3 e3) ∧ DoPost wx B P (zs.take i) f1 m1 e1 f2 m2 e2 f3 m3 e3 s10 ∧ Below W4.heap.size W4 wx)
    case first =>
      go_region_held3 (fun wx => Below W4.heap.size W4 wx ∧ wx.cell? ⟨qb, 0, none⟩ = some (.slice b1 n1 d1) ∧ wx.cell? ⟨qb, 1, none⟩ = some (.slice b2 n2 d2) ∧ wx.cell? ⟨qb, 2, none⟩ = some (.slice b3 n3 d3))
        ((go_split_ands; refine keep3 y0 y1 y2 ?_; repeat (with_reducible first | assumption | exact Below.refl _ _ | refine Below.drew ?_ | refine below_al ?_ _ | refine below_set ?_ (by first | exact Nat.le_refl _ | exact hb5.size))))
        (first
          | (go_at_call 38; refine (KO.out W4 _ i him HWR.out.1 ?_).mono ?_; (go_split_ands; assumption); rintro e w5 ⟨pa, pc, rfl, hi5, hb5, hb5x⟩; (try (have hz5 := block_keep hb5x (show ((W4.alloc zSt).drew).heap[W4.heap.size]? = some zSt from heap_new W4 _); have HZ5 : Hid (w5.heap[W4.heap.size]? = some zSt) := hz5; clear hz5)); clear hb5x)
          | (go_at_call 37; refine (KD.out W4 _ i pa pc him HWR.out.1 ?_ ?_).mono ?_; (go_split_ands; assumption); (first | exact hi5 | exact hi5.below (below1 _ _)); rintro e w6 ⟨f1, m1, e1, f2, m2, e2, f3, m3, e3, ev, rfl, hd6, hb6, hb6x⟩; (try (have hz := block_keep hb6x HZ5.out; have z0 := Lib.cell_of_heap hz 0; have z1 := Lib.cell_of_heap hz 1; have z2 := Lib.cell_of_heap hz 2; simp only [List.getElem?_toArray, List.getElem?_cons_zero, List.getElem?_cons_succ] at z0 z1 z2; have x0 := frozen_of_block hz 0; have x1 := frozen_of_block hz 1; have x2 := frozen_of_block hz 2; have HZZ : Hid (w6.heap[W4.heap.size]? = some zSt) := hz; clear hz)); (try (have hz := block_keep hb6x (heap_new w5 zSt); have z0 := Lib.cell_of_heap hz 0; have z1 := Lib.cell_of_heap hz 1; have z2 := Lib.cell_of_heap hz 2; simp only [List.getElem?_toArray, List.getElem?_cons_zero, List.getElem?_cons_succ] at z0 z1 z2; have x0 := frozen_of_block hz 0; have x1 := frozen_of_block hz 1; have x2 := frozen_of_block hz 2; have HZY : Hid (w6.heap[w5.heap.size]? = some zSt) := hz; clear hz)); have HD6 : Hid (DoPost w6 _ P (zs.take i) f1 m1 e1 f2 m2 e2 f3 m3 e3 ev) := hd6; clear hd6 hb6x))
      all_goals (go_wp2_with fail; go_meet)
      all_goals first
        | with_reducible exact ⟨w6.heap.size, _, f1, m1, e1, f2, m2, e2, f3, m3, e3, rfl, box3_new w6 _ _ _ _, HD6.out.below (below1 w6 _), below_al hb6 _⟩
        | exact ⟨w5.heap.size, _, f1, m1, e1, f2, m2, e2, f3, m3, e3, rfl, box3_over HZY.out _ _ _, over_post HD6.out (by simp), below_set (below_set (below_set hb6 hb5.size) hb5.size) hb5.size⟩
        | exact ⟨W4.heap.size, _, f1, m1, e1, f2, m2, e2, f3, m3, e3, rfl, box3_over HZZ.out _ _ _, over_post HD6.out (lt_block HZ5.out), below_set (below_set (below_set hb6 (Nat.le_refl _)) (Nat.le_refl _)) (Nat.le_refl _)⟩
    case rest =>
    obtain ⟨sb, B1, f1, m1, e1, f2, m2, e2, f3, m3, e3, rfl, hx1, hd1, hb1⟩ := hcut
    obtain ⟨V1, rfl⟩ : ∃ W5, W5 = wc := ⟨_, rfl⟩
    have HX1 : Hid (Box3 V1 sb (.slice f1 m1 e1) (.slice f2 m2 e2) (.slice f3 m3 e3)) := hx1
    have HD1 : Hid (DoPost V1 B1 P (zs.take i) f1 m1 e1 f2 m2 e2 f3 m3 e3 u11) := hd1
    have HV1 : Hid (Below w7.heap.size w7 V1 ∧ Below W5.heap.size W5 V1) := ⟨bthenY HWR.out.1 hb1, bthenY HWR.out.2 hb1⟩
    have q0 := cell_keep hb1 y0
    have q1 := cell_keep hb1 y1
    have q2 := cell_keep hb1 y2
    clear hx1 hd1 y0 y1 y2 hb1
    obtain ⟨ev1, hev1⟩ : ∃ ev1, ev1 = u11 := ⟨_, rfl⟩
    rw [← hev1] at HD1 ⊢
    clear hev1
    obtain ⟨i1, hi1⟩ : ∃ i1, i1 = i + 1 := ⟨_, rfl⟩
    have hw1 : IntKind.i64.wrap ((i : Int) + 1) = (i1 : Int) := by rw [IntKind.wrap_i64]; omega
    have hi1m : i1 ≤ m := by omega
    have hi1sc : i1 ≤ sc := by have := HN.out.2.2.2.2; omega
    have HI1 : Hid (i1 = i + 1) := hi1
    clear hi1
    go_upto_region 12 with fail
    go_cut [12, 13] (fun s9 s10 wx => ∃ sb B f1 m1 e1 f2 m2 e2 f3 m3 e3, s9 = .pointer (some ⟨sb, 0, none⟩) ∧ Box3 wx sb (.slice f1 m1 e1) (.slice f2 m2 e2) (.slice f3 m3 e3) ∧ DoPost wx B P (zs.take i1) f1 m1 e1 f2 m2 e2 f3 m3 e3 s10 ∧ Below V1.heap.size V1 wx)
    case first =>
      go_region_held3 (fun wx => Below V1.heap.size V1 wx ∧ wx.cell? ⟨qb, 0, none⟩ = some (.slice b1 n1 d1) ∧ wx.cell? ⟨qb, 1, none⟩ = some (.slice b2 n2 d2) ∧ wx.cell? ⟨qb, 2, none⟩ = some (.slice b3 n3 d3))
        ((go_split_ands; refine keep3 q0 q1 q2 ?_; repeat (with_reducible first | assumption | exact Below.refl _ _ | refine Below.drew ?_ | refine below_al ?_ _ | refine below_set ?_ (by first | exact Nat.le_refl _ | exact hb5.size))))
        (first
          | (go_at_call 38; refine (KO.out V1 _ i1 hi1m HV1.out.1 ?_).mono ?_; (go_split_ands; assumption); rintro e w5 ⟨pa, pc, rfl, hi5, hb5, hb5x⟩; (try (have hz5 := block_keep hb5x (show ((V1.alloc zSt).drew).heap[V1.heap.size]? = some zSt from heap_new V1 _); have HZ5 : Hid (w5.heap[V1.heap.size]? = some zSt) := hz5; clear hz5)); clear hb5x)
          | (go_at_call 37; refine (KD.out V1 _ i1 pa pc hi1m HV1.out.1 ?_ ?_).mono ?_; (go_split_ands; assumption); (first | exact hi5 | exact hi5.below (below1 _ _)); rintro e w6 ⟨f1, m1, e1, f2, m2, e2, f3, m3, e3, ev, rfl, hd6, hb6, hb6x⟩; (try (have hz := block_keep hb6x HZ5.out; have z0 := Lib.cell_of_heap hz 0; have z1 := Lib.cell_of_heap hz 1; have z2 := Lib.cell_of_heap hz 2; simp only [List.getElem?_toArray, List.getElem?_cons_zero, List.getElem?_cons_succ] at z0 z1 z2; have x0 := frozen_of_block hz 0; have x1 := frozen_of_block hz 1; have x2 := frozen_of_block hz 2; have HZZ : Hid (w6.heap[V1.heap.size]? = some zSt) := hz; clear hz)); (try (have hz := block_keep hb6x (heap_new w5 zSt); have z0 := Lib.cell_of_heap hz 0; have z1 := Lib.cell_of_heap hz 1; have z2 := Lib.cell_of_heap hz 2; simp only [List.getElem?_toArray, List.getElem?_cons_zero, List.getElem?_cons_succ] at z0 z1 z2; have x0 := frozen_of_block hz 0; have x1 := frozen_of_block hz 1; have x2 := frozen_of_block hz 2; have HZY : Hid (w6.heap[w5.heap.size]? = some zSt) := hz; clear hz)); have HD6 : Hid (DoPost w6 _ P (zs.take i1) f1 m1 e1 f2 m2 e2 f3 m3 e3 ev) := hd6; clear hd6 hb6x))
      all_goals (go_wp2_with fail; go_meet)
      all_goals first
        | with_reducible exact ⟨w6.heap.size, _, f1, m1, e1, f2, m2, e2, f3, m3, e3, rfl, box3_new w6 _ _ _ _, HD6.out.below (below1 w6 _), below_al hb6 _⟩
        | exact ⟨w5.heap.size, _, f1, m1, e1, f2, m2, e2, f3, m3, e3, rfl, box3_over HZY.out _ _ _, over_post HD6.out (by simp), below_set (below_set (below_set hb6 hb5.size) hb5.size) hb5.size⟩
        | exact ⟨V1.heap.size, _, f1, m1, e1, f2, m2, e2, f3, m3, e3, rfl, box3_over HZZ.out _ _ _, over_post HD6.out (lt_block HZ5.out), below_set (below_set (below_set hb6 (Nat.le_refl _)) (Nat.le_refl _)) (Nat.le_refl _)⟩
    case rest =>
    obtain ⟨rb, B2, g1, o1, j1, g2, o2, j2, g3, o3, j3, rfl, hx2, hd2, hb2⟩ := hcut
    obtain ⟨V2, rfl⟩ : ∃ W5, W5 = wc := ⟨_, rfl⟩
    have HV2 : Hid (Below w7.heap.size w7 V2 ∧ Below W5.heap.size W5 V2 ∧ Box3 V2 sb (.slice f1 m1 e1) (.slice f2 m2 e2) (.slice f3 m3 e3) ∧ Box3 V2 rb (.slice g1 o1 j1) (.slice g2 o2 j2) (.slice g3 o3 j3)) := ⟨bthenY HV1.out.1 hb2, bthenY HV1.out.2 hb2, HX1.out.below hb2, hx2⟩
    have hd1 := HD1.out.below hb2
    obtain ⟨ev2, hev2⟩ : ∃ ev2, ev2 = u13 := ⟨_, rfl⟩
    rw [← hev2] at hd2 ⊢
    clear hev2 q0 q1 q2 hx2 hb2 HX1 HD1
    rcases hd1.is with ⟨r1, rfl, hv1, hv2, hcap⟩ | ⟨-, t, x, rfl⟩
    case inr =>
      have HBF : Hid (Below w.heap.size w V2) := (K5.out V2 HV2.out.2.1).2.2.2.2.2.2
      clear hd1 hd2
      go_wp2_with fail
      go_ret
      exact ⟨rfl, HBF.out⟩
    rcases hd2.is with ⟨r2, rfl, hv3, hv4, -⟩ | ⟨-, t, x, rfl⟩
    case inr =>
      have HBF : Hid (Below w.heap.size w V2) := (K5.out V2 HV2.out.2.1).2.2.2.2.2.2
      clear hd1 hd2 r1 hv1 hv2 hcap
      go_wp2_with fail
      go_ret
      exact ⟨rfl, HBF.out⟩
    have hilt : i < zs.length := by have := HN.out.2.2.2.1; omega
    have hin2 := (doneE_none (runE_in r2).2).2
    have hin1 := (doneE_none (runE_in r1).2).2
    obtain ⟨K, hK, hKn⟩ : ∃ K : Nat, zs.getD i 0 = (K : Int) ∧ K < P.stmts.length := by
      have h1 := hin2 i (by rw [List.length_take, HI1.out]; omega)
      have h2 : (zs.take i1).getD i 0 = zs.getD i 0 := by simp only [List.getD]; rw [List.getElem?_take_of_lt (by rw [HI1.out]; omega)]
      rw [h2] at h1
      exact ⟨(zs.getD i 0).toNat, by omega, by omega⟩
    obtain ⟨s, hs⟩ : ∃ s, s = doD P (zs.take i) := ⟨_, rfl⟩
    have hs' : doD P (zs.take i1) = stepD P s K := by rw [HI1.out, doD_snoc P zs i hilt, hK, Int.toNat_natCast, hs]
    have hinv : Inv P L s := by rw [hs]; exact Inv.done HL.out.1 HS.out HL.out.2.2.2.1.sets.len HL.out.2.2.1 _ hin1
    have hinv' : Inv P L (stepD P s K) := by rw [← hs']; exact Inv.done HL.out.1 HS.out HL.out.2.2.2.1.sets.len HL.out.2.2.1 _ hin2
    have hts : s.things.length ≤ (stepD P s K).things.length := by
      have h1 := do_places P (zs.take i1) (fun j hj => (hin2 j hj).1) i (by rw [List.length_take, HI1.out]; omega)
      have h2 := do_places P (zs.take i1) (fun j hj => (hin2 j hj).1) i1 (by rw [List.length_take, HI1.out]; omega)
      have e1 : (zs.take i1).take i = zs.take i := by rw [List.take_take, HI1.out, Nat.min_eq_left (by omega)]
      have e2 : (zs.take i1).take i1 = zs.take i1 := by rw [List.take_take, Nat.min_self]
      have h3 := newF_le P (zs.take i1) i
      rw [e1] at h1 h3
      rw [e2] at h2
      rw [← hs'] 
      rw [hs, h1.2, h2.2]
      exact h3
    have hnt : s.things.length ≤ 40 := by
      have h1 := do_things P zs i (by omega)
      rw [← hs] at h1
      omega
    rw [← hs] at hv1 hv2 hcap
    rw [hs'] at hv3 hv4
    obtain ⟨ga, gac, hga, hvals1⟩ := hv1
    obtain ⟨gt, gtc, hgt, hvals2⟩ := hv2
    obtain ⟨gb, gbc, hgb, hvals3⟩ := hv3
    obtain ⟨gu, guc, hgu, hvals4⟩ := hv4
    injection hga with x1 x2 x3
    injection hgt with x4 x5 x6
    injection hgb with x7 x8 x9
    injection hgu with x10 x11 x12
    subst x1 x4 x7 x10
    obtain ⟨nt, hnte⟩ : ∃ k, k = s.things.length := ⟨_, rfl⟩
    obtain ⟨nu, hnue⟩ : ∃ k, k = (stepD P s K).things.length := ⟨_, rfl⟩
    obtain rfl : m1 = n1 := by rw [x2, hinv.lv, HN.out.1]
    obtain rfl : o1 = m1 := by rw [x8, hinv'.lv, HN.out.1]
    obtain rfl : m2 = nt := by rw [x5, hnte]
    obtain rfl : o2 = nu := by rw [x11, hnue]
    have hnu : m2 ≤ o2 := by rw [hnte, hnue]; exact hts
    have HST : Hid (Inv P L s ∧ m2 = s.things.length ∧ o1 = P.vars.length ∧ zs.getD i 0 = (K : Int) ∧ K < P.stmts.length ∧ m2 ≤ 40 ∧ i < zs.length) := ⟨hinv, hnte, HN.out.1, hK, hKn, by omega, hilt⟩
    have HVV : Hid (∀ wx, Below V2.heap.size V2 wx → (∀ j, j < o1 → wx.cell? ⟨ga, j * 2, none⟩ = some (.string (valK (s.get (.var j)))) ∧ wx.cell? ⟨ga, j * 2 + 1, none⟩ = some (.int .i64 (valN (s.get (.var j)))) ∧ wx.cell? ⟨gb, j * 2, none⟩ = some (.string (valK ((stepD P s K).get (.var j)))) ∧ wx.cell? ⟨gb, j * 2 + 1, none⟩ = some (.int .i64 (valN ((stepD P s K).get (.var j))))) ∧
        (∀ j, j < m2 → wx.cell? ⟨gt, j * 2, none⟩ = some (.string (valK (s.get (.thing j)))) ∧ wx.cell? ⟨gt, j * 2 + 1, none⟩ = some (.int .i64 (valN (s.get (.thing j)))) ∧ wx.cell? ⟨gu, j * 2, none⟩ = some (.string (valK ((stepD P s K).get (.thing j)))) ∧ wx.cell? ⟨gu, j * 2 + 1, none⟩ = some (.int .i64 (valN ((stepD P s K).get (.thing j))))) ∧
        IsInts wx (.slice f3 m3 e3) s.places ∧ Box3 wx sb (.slice (some ⟨ga, 0, none⟩) o1 e1) (.slice (some ⟨gt, 0, none⟩) m2 e2) (.slice f3 m3 e3) ∧ Box3 wx rb (.slice (some ⟨gb, 0, none⟩) o1 j1) (.slice (some ⟨gu, 0, none⟩) o2 j2) (.slice g3 o3 j3) ∧ Below W5.heap.size W5 wx ∧ Below w7.heap.size w7 wx) := fun wx hx => by
      refine ⟨fun j hj => ?_, fun j hj => ?_, hcap.1.below hx, HV2.out.2.2.1.below hx, HV2.out.2.2.2.below hx, bthenY HV2.out.2.1 hx, bthenY HV2.out.1 hx⟩
      · obtain ⟨h1, h2⟩ := hvals1 j (by omega)
        obtain ⟨h3, h4⟩ := hvals3 j (by omega)
        exact ⟨cell_keep hx h1, cell_keep hx h2, cell_keep hx h3, cell_keep hx h4⟩
      · obtain ⟨h1, h2⟩ := hvals2 j (by omega)
        obtain ⟨h3, h4⟩ := hvals4 j (by omega)
        exact ⟨cell_keep hx h1, cell_keep hx h2, cell_keep hx h3, cell_keep hx h4⟩
    have hbw : Below V2.heap.size V2 V2 := Below.refl _ _
    have KW : Hid (∀ wx, Below V2.heap.size V2 wx → Calls Tryz.prog 31 #[.agg #[.slice b1 o1 d1, .slice b2 n2 d2, .slice b3 n3 d3], .int .i64 (K : Int)] wx fun e w' => ∃ wa wn wc, e = .returned (.tuple #[.slice wa wn wc, .nilIface]) ∧ IsInts w' (.slice wa wn wc) (norm (changedL P L (P.stmts.getD K default))) ∧ Below V2.heap.size V2 w') := fun wx hx => by
      have h5 := bthenY HV2.out.2.1 hx
      refine (writes_any a P _ _ _ (K : Int) wx HS.out (K5.out wx h5).2.1 (K5.out wx h5).2.2.2.1 (K5.out wx h5).2.2.2.2.1).mono ?_
      rintro e w' ⟨wa, wn, wc, ev, rfl, hcs, hb⟩
      have hb' := hx.trans (hb.mono hx.size)
      rcases hcs with ⟨-, M, hM, ⟨K', hKK, -, rfl, hi⟩ | ⟨q, -⟩⟩ | ⟨q, -⟩
      · obtain rfl : K = K' := by omega
        rw [← HL.out.2.1.uniq hM] at hi
        exact ⟨wa, wn, wc, rfl, hi, hb'⟩
      · rw [inL_of HST.out.2.2.2.2.1] at q; cases q
      · rw [HL.out.1] at q; cases q
    have HSC : Hid (∀ wx, Below V2.heap.size V2 wx → ∃ cb co, sa = some ⟨cb, co, none⟩ ∧ wx.cell? ⟨cb, co + i, none⟩ = some (.int .i64 (K : Int))) := fun wx hx => by
      obtain ⟨cb, co, h1, h2⟩ := isInts_at (K5.out wx (bthenY HV2.out.2.1 hx)).2.2.2.2.2.1.1 i hilt
      rw [hK] at h2
      exact ⟨cb, co, h1, h2⟩
    clear hd1 hd2 r1 r2 hcap hvals1 hvals2 hvals3 hvals4 hin1 hin2 hK hKn hs hs' hinv hinv' hts hnt x2 x3 x5 x6 x8 x9 x11 x12 hnte hnue hilt
    obtain ⟨⟨y0, y1, y2⟩, -⟩ := K5.out V2 HV2.out.2.1
    obtain ⟨cb, co, rfl, sc0⟩ := HSC.out V2 hbw
    go_upto_region 15 with fail
    go_region_held3 (fun wx => Below V2.heap.size V2 wx ∧ wx.cell? ⟨qb, 0, none⟩ = some (.slice b1 o1 d1) ∧ wx.cell? ⟨qb, 1, none⟩ = some (.slice b2 n2 d2) ∧ wx.cell? ⟨qb, 2, none⟩ = some (.slice b3 n3 d3) ∧ wx.cell? ⟨cb, co + i, none⟩ = some (.int .i64 (K : Int)))
      ((go_split_ands; first
        | (with_reducible exact ⟨hbw, y0, y1, y2, sc0⟩)
        | (exact ⟨hbw.drew, y0, y1, y2, sc0⟩)
        | exact ⟨hb8, cell_keep hb8 y0, cell_keep hb8 y1, cell_keep hb8 y2, cell_keep hb8 sc0⟩
        | exact ⟨hb8.drew, cell_keep hb8 y0, cell_keep hb8 y1, cell_keep hb8 y2, cell_keep hb8 sc0⟩))
      ((go_at_call 31; refine (KW.out _ ?_).mono ?_; (first | exact hbw | exact hbw.drew); rintro e w8 ⟨wa, wn, wc, rfl, hi8, hb8⟩))
    obtain ⟨V3, hV3⟩ : ∃ z, z = w8 := ⟨_, rfl⟩
    rw [← hV3] at hi8 hb8
    have HV3 : Hid (Below V2.heap.size V2 V3 ∧ IsInts V3 (.slice wa wn wc) (norm (changedL P L (P.stmts.getD K default))) ∧ (norm (changedL P L (P.stmts.getD K default))).length ≤ 10000) := ⟨hb8, hi8, Nat.le_trans (norm_length_le _) (changed_in HL.out.2.2.2.1 (mem_getDY _ HST.out.2.2.2.2.1)).2⟩
    have hw8 : w8 = V3 := hV3.symm
    clear hV3
    rw [hw8]
    clear hw8 hi8 hb8 y0 y1 y2 sc0 KW
    have KHW : Hid (∀ wx x, Below V3.heap.size V3 wx → Calls Tryz.prog 39 #[.slice wa wn wc, .int .i64 x] wx fun e w' => e = .returned (.bool ((norm (changedL P L (P.stmts.getD K default))).contains x)) ∧ w' = wx) := fun wx x hx => has_any _ _ x wx (by have := HV3.out.2.2; omega) (HV3.out.2.1.below hx)
    have KHI : Hid (∀ wx x, Below V3.heap.size V3 wx → Calls Tryz.prog 39 #[.slice ia inn ic, .int .i64 x] wx fun e w' => e = .returned (.bool ((pickK (idK P L) P.stmts.length).contains x)) ∧ w' = wx) := fun wx x hx => by
      have h7 := bthenY HV2.out.1 (bthenY HV3.out.1 hx)
      exact has_any _ _ x wx (by have := pick_len (idK P L) P.stmts.length; have := HL.out.2.2.2.1.len; omega) (HL.out.2.2.2.2.1.below h7)
    have HV0 := (HVV.out V3 HV3.out.1).2.2.2.1
    obtain ⟨z0, z1, z2⟩ := HV0
    have ho1 : o1 ≤ 40 := by rw [HST.out.2.2.1]; exact HL.out.2.2.2.1.len.2.2.1
    go_wp2_with fail
    clear z0 z1 z2
    go_loopw [16] (fun t wr => ∃ n : Nat, n ≤ o1 ∧ t = .int .i64 n ∧ Below V3.heap.size V3 wr) (fun t _ => (o1 - intOf t).toNat)
    case atStart => exact ⟨0, Nat.zero_le _, rfl, Below.refl _ _⟩
    case round =>
      obtain ⟨n, hn, rfl, hwr⟩ := hrel
      have HWR3 : Hid (Below V3.heap.size V3 wr ∧ Below V2.heap.size V2 wr) := ⟨hwr, bthenY HV3.out.1 hwr⟩
      obtain ⟨hva, -, -, ⟨z0, -, -⟩, ⟨t0, -, -⟩, -, -⟩ := HVV.out wr HWR3.out.2
      by_cases hln : n < o1
      · have hni : (n : Int) < o1 := by omega
        obtain ⟨e0, e1', e2', e3'⟩ := hva n hln
        obtain ⟨cb', co', hsae, sc1⟩ := HSC.out wr HWR3.out.2
        cases hsae
        by_cases hsame : (stepD P s K).get (.var n) = s.get (.var n)
        · rw [hsame] at e2' e3'
          obtain ⟨kd, hkd⟩ : ∃ z, z = valK (s.get (.var n)) := ⟨_, rfl⟩
          obtain ⟨N, hN⟩ : ∃ z, z = valN (s.get (.var n)) := ⟨_, rfl⟩
          rw [← hkd] at e0 e2'
          rw [← hN] at e1' e3'
          clear hsame hkd hN hva hwr
          go_upto_region 21 with fail
          go_quiet (fail)
          go_wp2_with fail
          go_roundw
          case rel => exact ⟨n + 1, hln, by go_num, below_drewN HWR3.out.1 _⟩
          case measure => simp [intOf]; omega
        · have hmay := may_changes HL.out.1 HS.out HL.out.2.1 HST.out.1 K HST.out.2.2.2.2.1 (.var n) (by show n < P.vars.length; rw [← HST.out.2.2.1]; exact hln) hsame
          have hob : objR P s.places (.var n) = (n : Int) := rfl
          rw [hob] at hmay
          have KA : Hid (∀ q, Calls Tryz.prog 39 #[.slice wa wn wc, .int .i64 (n : Int)] (wr.drewN q) fun e w' => e = .returned (.bool true) ∧ w' = wr.drewN q) := fun q => by
            have := KHW.out (wr.drewN q) (n : Int) (below_drewN HWR3.out.1 _)
            rw [hmay.1] at this
            exact this
          have KB : Hid (∀ q, Calls Tryz.prog 39 #[.slice ia inn ic, .int .i64 (K : Int)] (wr.drewN q) fun e w' => e = .returned (.bool false) ∧ w' = wr.drewN q) := fun q => by
            have := KHI.out (wr.drewN q) (K : Int) (below_drewN HWR3.out.1 _)
            rw [hmay.2] at this
            exact this
          obtain ⟨kd, hkd⟩ : ∃ z, z = valK (s.get (.var n)) := ⟨_, rfl⟩
          obtain ⟨N, hN⟩ : ∃ z, z = valN (s.get (.var n)) := ⟨_, rfl⟩
          obtain ⟨kd', hkd'⟩ : ∃ z, z = valK ((stepD P s K).get (.var n)) := ⟨_, rfl⟩
          obtain ⟨N', hN'⟩ : ∃ z, z = valN ((stepD P s K).get (.var n)) := ⟨_, rfl⟩
          rw [← hkd] at e0
          rw [← hN] at e1'
          rw [← hkd'] at e2'
          rw [← hN'] at e3'
          clear hsame hkd hN hva hwr hkd' hN' hmay hob
          by_cases hkk : kd = kd'
          · subst hkk
            by_cases hNN : N = N'
            · subst hNN
              go_upto_region 21 with fail
              go_quiet (fail)
              go_wp2_with fail
              go_roundw
              case rel => exact ⟨n + 1, hln, by go_num, below_drewN HWR3.out.1 _⟩
              case measure => simp [intOf]; omega
            · have hN1 : (N == N') = false := beq_eq_false_iff_ne.2 hNN
              have hN2 : decide (N = N') = false := decide_eq_false hNN
              go_upto_region 21 with fail
              go_quiet (first | (go_at_call_of 39 (Value.slice wa wn wc); refine Calls.quiet_of_same (KA.out _)) | (go_at_call_of 39 (Value.slice ia inn ic); refine Calls.quiet_of_same (KB.out _)))
              go_wp2_with fail
              go_roundw
              case rel => exact ⟨n + 1, hln, by go_num, below_drewN HWR3.out.1 _⟩
              case measure => simp [intOf]; omega
          · have hk2 : (kd.toList == kd'.toList) = false := beq_eq_false_iff_ne.2 (fun q => hkk (toList_inj q))
            have hk3 : decide (kd = kd') = false := decide_eq_false hkk
            go_upto_region 21 with fail
            go_quiet (first | (go_at_call_of 39 (Value.slice wa wn wc); refine Calls.quiet_of_same (KA.out _)) | (go_at_call_of 39 (Value.slice ia inn ic); refine Calls.quiet_of_same (KB.out _)))
            go_wp2_with fail
            go_roundw
            case rel => exact ⟨n + 1, hln, by go_num, below_drewN HWR3.out.1 _⟩
            case measure => simp [intOf]; omega
      · clear hva t0
        have HEX : Hid (Below V3.heap.size V3 wr ∧ Below V2.heap.size V2 wr) := HWR3.out
        have hnn : ¬ (n : Int) < o1 := by omega
        clear HWR3 hwr hln hn
        go_wp2_with fail
        clear z0 hnn
        have hm2c : m2 ≤ 40 := HST.out.2.2.2.2.2.1
        go_loopw [17] (fun t wr => ∃ n : Nat, n ≤ m2 ∧ t = .int .i64 n ∧ Below V3.heap.size V3 wr) (fun t _ => (m2 - intOf t).toNat)
        case atStart => exact ⟨0, Nat.zero_le _, rfl, HEX.out.1⟩
        case round =>
          obtain ⟨n, hn, rfl, hwr⟩ := hrel
          have HWR4 : Hid (Below V3.heap.size V3 wr ∧ Below V2.heap.size V2 wr ∧ Below w7.heap.size w7 wr) := ⟨hwr, bthenY HV3.out.1 hwr, bthenY HV2.out.1 (bthenY HV3.out.1 hwr)⟩
          obtain ⟨-, hva, hpl, ⟨z0, z1, z2⟩, ⟨t0, t1, t2⟩, hb5, -⟩ := HVV.out wr HWR4.out.2.1
          obtain ⟨⟨y0, y1, y2⟩, -⟩ := K5.out wr hb5
          by_cases hln : n < m2
          · have hni : (n : Int) < m2 := by omega
            have hnu2 : (n : Int) < o2 := by omega
            obtain ⟨e0, e1', e2', e3'⟩ := hva n hln
            obtain ⟨cb', co', hsae, sc1⟩ := HSC.out wr HWR4.out.2.1
            cases hsae
            have hok : (Ref.thing n).ok P.vars.length P.funs.length s.things.length := by show n < s.things.length; rw [← HST.out.2.1]; exact hln
            obtain ⟨pn, hpn⟩ : ∃ k, k = places P (s.places.getD n 0).toNat := ⟨_, rfl⟩
            have hat : objV P s.places (⟨#[116, 104, 105, 110, 103]⟩ : ByteArray).toList (n : Int) = (pn : Int) := by
              have := objV_R HL.out.1 HST.out.1 hok
              rw [hpn]
              exact this
            have KAT : Hid (Calls Tryz.prog 40 #[.agg #[.slice b1 o1 d1, .slice b2 n2 d2, .slice b3 n3 d3], .agg #[.slice (some ⟨ga, 0, none⟩) o1 e1, .slice (some ⟨gt, 0, none⟩) m2 e2, .slice f3 m3 e3], .agg #[.string ⟨#[116, 104, 105, 110, 103]⟩, .int .i64 (n : Int)]] wr fun e w' => e = .returned (.int .i64 (pn : Int)) ∧ Below wr.heap.size wr w') := by
              rw [← hat]
              exact object_any a P _ _ _ _ _ _ s.places _ _ wr HS.out (K5.out wr hb5).2.1 (K5.out wr hb5).2.2.2.1 HL.out.1 hpl
            have HOB : Hid (objR P s.places (.thing n) = (pn : Int)) := by show ((places P (s.places.getD n 0).toNat : Nat) : Int) = _; rw [hpn]
            have HOK : Hid ((Ref.thing n).ok P.vars.length P.funs.length s.things.length) := hok
            clear hat hpn hok hva hpl hwr hb5
            go_upto_region 26 with fail
            go_wp2_with fail
            refine KAT.out.mono ?_
            rintro e w9 ⟨rfl, hb9⟩
            have HB9 : Hid (Below V3.heap.size V3 w9 ∧ Below V2.heap.size V2 w9) := ⟨bthenY HWR4.out.1 hb9, bthenY HWR4.out.2.1 hb9⟩
            replace z0 := cell_keep hb9 z0
            replace z1 := cell_keep hb9 z1
            replace t1 := cell_keep hb9 t1
            replace sc1 := cell_keep hb9 sc1
            replace e0 := cell_keep hb9 e0
            replace e1' := cell_keep hb9 e1'
            replace e2' := cell_keep hb9 e2'
            replace e3' := cell_keep hb9 e3'
            clear hb9 KAT y0 y1 y2 z2 t0 t2
            by_cases hsame : (stepD P s K).get (.thing n) = s.get (.thing n)
            · rw [hsame] at e2' e3'
              obtain ⟨kd, hkd⟩ : ∃ z, z = valK (s.get (.thing n)) := ⟨_, rfl⟩
              obtain ⟨N, hN⟩ : ∃ z, z = valN (s.get (.thing n)) := ⟨_, rfl⟩
              rw [← hkd] at e0 e2'
              rw [← hN] at e1' e3'
              clear hsame hkd hN
              go_upto_region 27 with fail
              go_quiet (fail)
              go_wp2_with fail
              go_roundw
              case rel => exact ⟨n + 1, hln, by go_num, below_drewN HB9.out.1 _⟩
              case measure => simp [intOf]; omega
            have hmay := may_changes HL.out.1 HS.out HL.out.2.1 HST.out.1 K HST.out.2.2.2.2.1 (.thing n) HOK.out hsame
            rw [HOB.out] at hmay
            have KA : Hid (∀ q, Calls Tryz.prog 39 #[.slice wa wn wc, .int .i64 (pn : Int)] (w9.drewN q) fun e w' => e = .returned (.bool true) ∧ w' = w9.drewN q) := fun q => by
              have := KHW.out (w9.drewN q) (pn : Int) (below_drewN HB9.out.1 _)
              rw [hmay.1] at this
              exact this
            have KB : Hid (∀ q, Calls Tryz.prog 39 #[.slice ia inn ic, .int .i64 (K : Int)] (w9.drewN q) fun e w' => e = .returned (.bool false) ∧ w' = w9.drewN q) := fun q => by
              have := KHI.out (w9.drewN q) (K : Int) (below_drewN HB9.out.1 _)
              rw [hmay.2] at this
              exact this
            obtain ⟨kd, hkd⟩ : ∃ z, z = valK (s.get (.thing n)) := ⟨_, rfl⟩
            obtain ⟨N, hN⟩ : ∃ z, z = valN (s.get (.thing n)) := ⟨_, rfl⟩
            obtain ⟨kd', hkd'⟩ : ∃ z, z = valK ((stepD P s K).get (.thing n)) := ⟨_, rfl⟩
            obtain ⟨N', hN'⟩ : ∃ z, z = valN ((stepD P s K).get (.thing n)) := ⟨_, rfl⟩
            rw [← hkd] at e0
            rw [← hN] at e1'
            rw [← hkd'] at e2'
            rw [← hN'] at e3'
            clear hsame hkd hN hkd' hN' hmay
            by_cases hkk : kd = kd'
            · subst hkk
              by_cases hNN : N = N'
              · subst hNN
                go_upto_region 27 with fail
                go_quiet (fail)
                go_wp2_with fail
                go_roundw
                case rel => exact ⟨n + 1, hln, by go_num, below_drewN HB9.out.1 _⟩
                case measure => simp [intOf]; omega
              · have hN1 : (N == N') = false := beq_eq_false_iff_ne.2 hNN
                have hN2 : decide (N = N') = false := decide_eq_false hNN
                go_upto_region 27 with fail
                go_quiet (first | (go_at_call_of 39 (Value.slice wa wn wc); refine Calls.quiet_of_same (KA.out _)) | (go_at_call_of 39 (Value.slice ia inn ic); refine Calls.quiet_of_same (KB.out _)))
                go_wp2_with fail
                go_roundw
                case rel => exact ⟨n + 1, hln, by go_num, below_drewN HB9.out.1 _⟩
                case measure => simp [intOf]; omega
            · have hk2 : (kd.toList == kd'.toList) = false := beq_eq_false_iff_ne.2 (fun q => hkk (toList_inj q))
              have hk3 : decide (kd = kd') = false := decide_eq_false hkk
              go_upto_region 27 with fail
              go_quiet (first | (go_at_call_of 39 (Value.slice wa wn wc); refine Calls.quiet_of_same (KA.out _)) | (go_at_call_of 39 (Value.slice ia inn ic); refine Calls.quiet_of_same (KB.out _)))
              go_wp2_with fail
              go_roundw
              case rel => exact ⟨n + 1, hln, by go_num, below_drewN HB9.out.1 _⟩
              case measure => simp [intOf]; omega
          · have hbe := HWR4.out.2.2
            clear hva hpl y0 y1 y2 z0 z2 t0 t1 t2 hwr hb5 HEX
            go_wp2_with fail
            go_roundw
            case rel => exact ⟨i1, by rw [HI1.out]; exact hlt, rfl, hbe⟩
            case measure =>
              have hie := HI1.out
              simp [intOf]; omega
end Go.Proofs.YteekjigaicmohaaGreatDoor

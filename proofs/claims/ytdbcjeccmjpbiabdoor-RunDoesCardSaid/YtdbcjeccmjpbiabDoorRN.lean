/-
  RunParts answers true at every program and script that read as plain data.
-/
import Derived.Test.YtdbcjeccmjpbiabDoorRM
import Derived.Deep.DeepCutAuto
namespace Go.Proofs.YtdbcjeccmjpbiabDoor
open Go.RowKit Go.Extern.Stop Go.Stop Go.Extern

theorem isCap_take {w : World} {sa : Option Addr} {m sc : Nat} {zs : List Int} (h : IsCap w (.slice sa m sc) zs) (k : Nat) (hk : k ≤ zs.length) : IsCap w (.slice sa k sc) (zs.take k) := by
  obtain ⟨hi, a, c, e, hc⟩ := h
  cases e
  have hl : (zs.take k).length = k := by simp; omega
  refine ⟨?_, sa, sc, by rw [hl], by rw [hl]; omega⟩
  rcases hi with ⟨rfl, a, c, e⟩ | ⟨hne, b, o, c, e, hq⟩
  · have : k = 0 := by simpa using hk
    subst this
    exact Or.inl ⟨by simp, _, _, rfl⟩
  · cases e
    by_cases hk0 : k = 0
    · subst hk0
      exact Or.inl ⟨by simp, _, _, rfl⟩
    · refine Or.inr ⟨fun q => hk0 (by rw [← hl, q]; rfl), b, o, _, by rw [hl], fun j hj => ?_⟩
      rw [hl] at hj
      have : (zs.take k).getD j 0 = zs.getD j 0 := by simp only [List.getD]; rw [List.getElem?_take_of_lt hj]
      rw [this]
      exact hq j (by omega)
abbrev zSt : Obj := .cells #[.slice none 0 0, .slice none 0 0, .slice none 0 0] 33
theorem box3_over {w : World} {r : Nat} (h : w.heap[r]? = some zSt) (x0 x1 x2 : Value) : Box3 (((w.setCell ⟨r, 0, none⟩ x0).setCell ⟨r, 1, none⟩ x1).setCell ⟨r, 2, none⟩ x2) r x0 x1 x2 := by
  obtain ⟨q0, q1, q2⟩ := res_cells h x0 x1 x2
  exact ⟨q0, q1, q2⟩
theorem over_post {w : World} {B : Nat} {P : ProgD} {zs : List Int} {a1 : Option Addr} {m1 c1 : Nat} {a2 : Option Addr} {m2 c2 : Nat} {a3 : Option Addr} {m3 c3 : Nat} {ev : Value} (h : DoPost w B P zs a1 m1 c1 a2 m2 c2 a3 m3 c3 ev) {b : Nat} {x0 x1 x2 : Value} (hb : b < B) : DoPost (((w.setCell ⟨b, 0, none⟩ x0).setCell ⟨b, 1, none⟩ x1).setCell ⟨b, 2, none⟩ x2) B P zs a1 m1 c1 a2 m2 c2 a3 m3 c3 ev := ((h.set hb).set hb).set hb
theorem keep2 {w0 w : World} {p0 p1 : Addr} {v0 v1 : Value} (k0 : w0.cell? p0 = some v0) (k1 : w0.cell? p1 = some v1) (hb : Below w0.heap.size w0 w) : Below w0.heap.size w0 w ∧ w.cell? p0 = some v0 ∧ w.cell? p1 = some v1 := ⟨hb, cell_keep hb k0, cell_keep hb k1⟩
theorem lt_block {w : World} {b : Nat} {o : Obj} (h : w.heap[b]? = some o) : b < w.heap.size := (Array.getElem?_eq_some_iff.1 h).1
theorem isInts_owns {w : World} {B n : Nat} {v : Value} {zs : List Int} (h : w.ownsRow B 3 1 v n (zs.map intV)) : IsInts w v zs := (isCap_of_owns h).1

set_option maxRecDepth 100000 in
set_option maxHeartbeats 8000000 in
theorem runParts_any (a : Nat → Addr) (P : ProgD) (v1 v2 v3 sv : Value) (zs : List Int) (cut : Int) (w : World) (h : IsProg w v1 v2 v3 P) (hz : IsCap w sv zs) (hE : Errs5 w a) :
    Calls Tryd.prog 4 #[.agg #[v1, v2, v3], sv, .int .i64 cut] w fun e w' => e = .returned (.bool true) ∧ Below w.heap.size w w' := by
  have H : Hid (IsProg w v1 v2 v3 P) := h
  have HE : Hid (Errs5 w a) := hE
  have hz' := hz
  obtain ⟨-, sa, sc, rfl, hsc⟩ := hz
  obtain ⟨⟨a1, c1, rfl, -, -⟩, ⟨a2, c2, rfl, -, -⟩, ⟨a3, c3, rfl, -, -⟩⟩ := h
  obtain ⟨n1, hn1⟩ : ∃ m, m = P.vars.length := ⟨_, rfl⟩
  obtain ⟨n2, hn2⟩ : ∃ m, m = P.funs.length := ⟨_, rfl⟩
  obtain ⟨n3, hn3⟩ : ∃ m, m = P.stmts.length := ⟨_, rfl⟩
  obtain ⟨m, hm⟩ : ∃ m, m = zs.length := ⟨_, rfl⟩
  have HN : Hid (n1 = P.vars.length ∧ n2 = P.funs.length ∧ n3 = P.stmts.length ∧ m = zs.length) := ⟨hn1, hn2, hn3, hm⟩
  rw [← hn1, ← hn2, ← hn3] at H ⊢
  rw [← hm] at hsc ⊢
  have HZ : Hid (IsCap w (.slice sa m sc) zs) := by show IsCap _ _ _; rw [hm]; exact hz'
  clear hn1 hn2 hn3 hE hz'
  obtain ⟨W, hW⟩ : ∃ W, W = w.alloc (.cells #[.slice a1 n1 c1, .slice a2 n2 c2, .slice a3 n3 c3] 26) := ⟨_, rfl⟩
  have hBW : Below w.heap.size w W := by rw [hW]; exact below1 w _
  have HBX : Hid (Box3 W w.heap.size (.slice a1 n1 c1) (.slice a2 n2 c2) (.slice a3 n3 c3)) := by
    show Box3 W _ _ _ _
    rw [hW]; exact box3_new w _ _ _ _
  have K1 : Hid (Calls Tryd.prog 5 #[] W fun e w' => e = .returned (.bool true) ∧ Below W.heap.size W w') := ran_any a W (HE.out.below hBW)
  rw [hW] at K1
  clear hm
  go_enter Tryd.func4, Tryd.ntmps4
  go_wp2_with fail
  refine K1.out.mono ?_
  rintro e w1 ⟨rfl, hB1⟩
  rw [← hW] at hB1
  clear K1 hW
  obtain ⟨p0, p1, p2⟩ := HBX.out.below hB1
  have hB1w : Below w.heap.size w w1 := hBW.trans (hB1.mono hBW.size)
  go_wp2_with fail
  refine (large_any P _ _ _ w1 (H.out.below hB1w)).mono ?_
  rintro e w2 ⟨r, rfl, hr, hB2⟩
  have hB2w : Below w.heap.size w w2 := hB1w.trans (hB2.mono hB1w.size)
  rcases hr with rfl | ⟨rfl, hs, -⟩
  · go_wp2_with fail
    go_ret
    exact ⟨rfl, hB2w⟩
  by_cases g1 : 150 < (m : Int)
  · go_wp2_with fail
    go_ret
    exact ⟨rfl, hB2w⟩
  by_cases g2 : cut < 0
  · go_wp2_with fail
    go_ret
    exact ⟨rfl, hB2w⟩
  by_cases g3 : (m : Int) < cut
  · go_wp2_with fail
    go_ret
    exact ⟨rfl, hB2w⟩
  have HS : Hid (SmallP P) := hs
  have X2 : Hid (Box3 w2 w.heap.size (.slice a1 n1 c1) (.slice a2 n2 c2) (.slice a3 n3 c3)) := (HBX.out.below hB1).below hB2
  clear p0 p1 p2 hs hB1 hB1w hB2
  obtain ⟨p0, p1, p2⟩ := X2.out
  go_wp2_with fail
  refine (ownProgram_any P _ _ _ w2 HS.out (H.out.below hB2w)).mono ?_
  rintro e w3 ⟨u1, u2, u3, rfl, hq, hB3⟩
  have hB3w : Below w.heap.size w w3 := hB2w.trans (hB3.mono hB2w.size)
  have X3 : Hid (Box3 w3 w.heap.size (.slice a1 n1 c1) (.slice a2 n2 c2) (.slice a3 n3 c3)) := X2.out.below hB3
  have HQ : Hid (IsProg w3 u1 u2 u3 P) := hq
  obtain ⟨⟨b1, d1, rfl, -, -⟩, ⟨b2, d2, rfl, -, -⟩, ⟨b3, d3, rfl, -, -⟩⟩ := hq
  rw [← HN.out.1, ← HN.out.2.1, ← HN.out.2.2.1] at HQ ⊢
  obtain ⟨k, hk⟩ : ∃ k, k = cut.toNat := ⟨_, rfl⟩
  obtain rfl : cut = (k : Int) := by omega
  have hkm : k ≤ m := by omega
  have hm150 : m ≤ 150 := by omega
  clear hk g1 g2 g3 p0 p1 p2 hB2w hB3 X2
  go_upto_region 5 with fail
  obtain ⟨W4, hW4⟩ : ∃ W4, W4 = w3.alloc (.cells #[.slice b1 n1 d1, .slice b2 n2 d2, .slice b3 n3 d3] 26) := ⟨_, rfl⟩
  have hB34 : Below w3.heap.size w3 W4 := by rw [hW4]; exact below1 w3 _
  have hB4w : Below w.heap.size w W4 := hB3w.trans (hB34.mono hB3w.size)
  have hX4 : Box3 W4 w3.heap.size (.slice b1 n1 d1) (.slice b2 n2 d2) (.slice b3 n3 d3) := by rw [hW4]; exact box3_new w3 _ _ _ _
  rw [← hW4]
  clear hW4
  obtain ⟨qb, hqb⟩ : ∃ b, b = w3.heap.size := ⟨_, rfl⟩
  rw [← hqb] at hX4 ⊢
  clear hqb
  obtain ⟨y0, y1, y2⟩ := hX4
  have X4 : Hid (Box3 W4 w.heap.size (.slice a1 n1 c1) (.slice a2 n2 c2) (.slice a3 n3 c3)) := X3.out.below hB34
  have HQ4 : Hid (∀ wx, Below W4.heap.size W4 wx → IsProg wx (.slice b1 n1 d1) (.slice b2 n2 d2) (.slice b3 n3 d3) P ∧ Errs5 wx a ∧ IsCap wx (.slice sa m sc) zs) := fun wx hwx => ⟨(HQ.out.below hB34).below hwx, (HE.out.below hB4w).below hwx, (HZ.out.below hB4w).below hwx⟩
  have hmz := HN.out.2.2.2
  have KO : Hid (∀ w0 wx j, j ≤ m → Below W4.heap.size W4 w0 → Below w0.heap.size w0 wx → Calls Tryd.prog 9 #[.slice sa j sc] wx fun e w' => ∃ pa pc, e = .returned (.slice pa j pc) ∧ IsInts w' (.slice pa j pc) (zs.take j) ∧ Below w0.heap.size w0 w' ∧ Below wx.heap.size wx w') := fun w0 wx j hj h0 hwx => by
    have hl : (zs.take j).length = j := by simp; omega
    have hwx4 := h0.trans (hwx.mono h0.size)
    refine (ownInts_row (zs.take j) (.slice sa j sc) wx (by omega) (isCap_take (HQ4.out wx hwx4).2.2 j (by omega)).1).mono ?_
    rintro e w' ⟨pa, pc, rfl, ho, hb⟩
    rw [hl] at ho ⊢
    exact ⟨pa, pc, rfl, isInts_owns ho, hwx.trans (hb.mono hwx.size), hb⟩
  have KD : Hid (∀ w0 wx j pa pc, j ≤ m → Below W4.heap.size W4 w0 → Below w0.heap.size w0 wx → IsInts wx (.slice pa j pc) (zs.take j) → Calls Tryd.prog 8 #[.agg #[.slice b1 n1 d1, .slice b2 n2 d2, .slice b3 n3 d3], .slice pa j pc] wx fun e w' => ∃ a1 m1 c1 a2 m2 c2 a3 m3 c3 ev, e = .returned (.tuple #[.agg #[.slice a1 m1 c1, .slice a2 m2 c2, .slice a3 m3 c3], ev]) ∧ DoPost w' wx.heap.size P (zs.take j) a1 m1 c1 a2 m2 c2 a3 m3 c3 ev ∧ Below w0.heap.size w0 w' ∧ Below wx.heap.size wx w') := fun w0 wx j pa pc hj h0 hwx hi => by
    have hwx4 := h0.trans (hwx.mono h0.size)
    refine (do_any a P _ _ _ _ (zs.take j) wx HS.out (HQ4.out wx hwx4).1 (HQ4.out wx hwx4).2.1 hi (by simp; omega)).mono ?_
    rintro e w' ⟨x1, x2, x3, x4, x5, x6, x7, x8, x9, ev, rfl, hd, hb⟩
    exact ⟨x1, x2, x3, x4, x5, x6, x7, x8, x9, ev, rfl, hd, hwx.trans (hb.mono hwx.size), hb⟩
  clear hmz X3 HBX hBW hB34 hB3w
  have hksc : k ≤ sc := by omega
  go_cut [9, 10] (fun s9 s10 wx => ∃ sb B f1 m1 e1 f2 m2 e2 f3 m3 e3, s9 = .pointer (some ⟨sb, 0, none⟩) ∧ Box3 wx sb (.slice f1 m1 e1) (.slice f2 m2 e2) (.slice f3 m3 e3) ∧ DoPost wx B P (zs.take k) f1 m1 e1 f2 m2 e2 f3 m3 e3 s10 ∧ Below W4.heap.size W4 wx)
  case first =>
    go_region_held3 (fun wx => Below W4.heap.size W4 wx ∧ wx.cell? ⟨qb, 0, none⟩ = some (.slice b1 n1 d1) ∧ wx.cell? ⟨qb, 1, none⟩ = some (.slice b2 n2 d2) ∧ wx.cell? ⟨qb, 2, none⟩ = some (.slice b3 n3 d3))
      ((go_split_ands; refine keep3 y0 y1 y2 ?_; repeat (with_reducible first | assumption | exact Below.refl _ _ | refine Below.drew ?_ | refine below_al ?_ _ | refine below_set ?_ (by first | exact Nat.le_refl _ | exact hb5.size))))
      (first
        | (go_at_call 9; refine (KO.out W4 _ k hkm (Below.refl _ _) ?_).mono ?_; (go_split_ands; assumption); rintro e w5 ⟨pa, pc, rfl, hi5, hb5, hb5x⟩; (try (have hz5 := block_keep hb5x (show ((W4.alloc zSt).drew).heap[W4.heap.size]? = some zSt from heap_new W4 _); have HZ5 : Hid (w5.heap[W4.heap.size]? = some zSt) := hz5; clear hz5)); clear hb5x)
        | (go_at_call 8; refine (KD.out W4 _ k pa pc hkm (Below.refl _ _) ?_ ?_).mono ?_; (go_split_ands; assumption); (first | exact hi5 | exact hi5.below (below1 _ _)); rintro e w6 ⟨f1, m1, e1, f2, m2, e2, f3, m3, e3, ev, rfl, hd6, hb6, hb6x⟩; (try (have hz := block_keep hb6x HZ5.out; have z0 := Lib.cell_of_heap hz 0; have z1 := Lib.cell_of_heap hz 1; have z2 := Lib.cell_of_heap hz 2; simp only [List.getElem?_toArray, List.getElem?_cons_zero, List.getElem?_cons_succ] at z0 z1 z2; have x0 := frozen_of_block hz 0; have x1 := frozen_of_block hz 1; have x2 := frozen_of_block hz 2; have HZZ : Hid (w6.heap[W4.heap.size]? = some zSt) := hz; clear hz)); (try (have hz := block_keep hb6x (heap_new w5 zSt); have z0 := Lib.cell_of_heap hz 0; have z1 := Lib.cell_of_heap hz 1; have z2 := Lib.cell_of_heap hz 2; simp only [List.getElem?_toArray, List.getElem?_cons_zero, List.getElem?_cons_succ] at z0 z1 z2; have x0 := frozen_of_block hz 0; have x1 := frozen_of_block hz 1; have x2 := frozen_of_block hz 2; have HZY : Hid (w6.heap[w5.heap.size]? = some zSt) := hz; clear hz)); have HD6 : Hid (DoPost w6 _ P (zs.take k) f1 m1 e1 f2 m2 e2 f3 m3 e3 ev) := hd6; clear hd6 hb6x))
    all_goals (go_wp2_with fail; go_meet)
    all_goals first
      | with_reducible exact ⟨w6.heap.size, _, f1, m1, e1, f2, m2, e2, f3, m3, e3, rfl, box3_new w6 _ _ _ _, HD6.out.below (below1 w6 _), below_al hb6 _⟩
      | exact ⟨w5.heap.size, _, f1, m1, e1, f2, m2, e2, f3, m3, e3, rfl, box3_over HZY.out _ _ _, over_post HD6.out (by simp), below_set (below_set (below_set hb6 hb5.size) hb5.size) hb5.size⟩
      | exact ⟨W4.heap.size, _, f1, m1, e1, f2, m2, e2, f3, m3, e3, rfl, box3_over HZZ.out _ _ _, over_post HD6.out (lt_block HZ5.out), below_set (below_set (below_set hb6 (Nat.le_refl _)) (Nat.le_refl _)) (Nat.le_refl _)⟩
  case rest =>
  obtain ⟨sb, B1, f1, m1, e1, f2, m2, e2, f3, m3, e3, rfl, hx1, hd1, hb1⟩ := hcut
  obtain ⟨W5, rfl⟩ : ∃ W5, W5 = wc := ⟨_, rfl⟩
  have HX1 : Hid (Box3 W5 sb (.slice f1 m1 e1) (.slice f2 m2 e2) (.slice f3 m3 e3)) := hx1
  have HD1 : Hid (DoPost W5 B1 P (zs.take k) f1 m1 e1 f2 m2 e2 f3 m3 e3 u10) := hd1
  have q0 := cell_keep hb1 y0
  have q1 := cell_keep hb1 y1
  have q2 := cell_keep hb1 y2
  clear hx1 hd1 y0 y1 y2
  obtain ⟨ev1, hev1⟩ : ∃ ev1, ev1 = u10 := ⟨_, rfl⟩
  rw [← hev1] at HD1 ⊢
  clear hev1
  go_upto_region 6 with fail
  go_cut [11, 12] (fun s9 s10 wx => ∃ sb B f1 m1 e1 f2 m2 e2 f3 m3 e3, s9 = .pointer (some ⟨sb, 0, none⟩) ∧ Box3 wx sb (.slice f1 m1 e1) (.slice f2 m2 e2) (.slice f3 m3 e3) ∧ DoPost wx B P (zs.take m) f1 m1 e1 f2 m2 e2 f3 m3 e3 s10 ∧ Below W5.heap.size W5 wx)
  case first =>
    go_region_held3 (fun wx => Below W5.heap.size W5 wx ∧ wx.cell? ⟨qb, 0, none⟩ = some (.slice b1 n1 d1) ∧ wx.cell? ⟨qb, 1, none⟩ = some (.slice b2 n2 d2) ∧ wx.cell? ⟨qb, 2, none⟩ = some (.slice b3 n3 d3))
      ((go_split_ands; refine keep3 q0 q1 q2 ?_; repeat (with_reducible first | assumption | exact Below.refl _ _ | refine Below.drew ?_ | refine below_al ?_ _ | refine below_set ?_ (by first | exact Nat.le_refl _ | exact hb5.size))))
      (first
        | (go_at_call 9; refine (KO.out W5 _ m (Nat.le_refl _) hb1 ?_).mono ?_; (go_split_ands; assumption); rintro e w5 ⟨pa, pc, rfl, hi5, hb5, hb5x⟩; (try (have hz5 := block_keep hb5x (show ((W5.alloc zSt).drew).heap[W5.heap.size]? = some zSt from heap_new W5 _); have HZ5 : Hid (w5.heap[W5.heap.size]? = some zSt) := hz5; clear hz5)); clear hb5x)
        | (go_at_call 8; refine (KD.out W5 _ m pa pc (Nat.le_refl _) hb1 ?_ ?_).mono ?_; (go_split_ands; assumption); (first | exact hi5 | exact hi5.below (below1 _ _)); rintro e w6 ⟨f1, m1, e1, f2, m2, e2, f3, m3, e3, ev, rfl, hd6, hb6, hb6x⟩; (try (have hz := block_keep hb6x HZ5.out; have z0 := Lib.cell_of_heap hz 0; have z1 := Lib.cell_of_heap hz 1; have z2 := Lib.cell_of_heap hz 2; simp only [List.getElem?_toArray, List.getElem?_cons_zero, List.getElem?_cons_succ] at z0 z1 z2; have x0 := frozen_of_block hz 0; have x1 := frozen_of_block hz 1; have x2 := frozen_of_block hz 2; have HZZ : Hid (w6.heap[W5.heap.size]? = some zSt) := hz; clear hz)); (try (have hz := block_keep hb6x (heap_new w5 zSt); have z0 := Lib.cell_of_heap hz 0; have z1 := Lib.cell_of_heap hz 1; have z2 := Lib.cell_of_heap hz 2; simp only [List.getElem?_toArray, List.getElem?_cons_zero, List.getElem?_cons_succ] at z0 z1 z2; have x0 := frozen_of_block hz 0; have x1 := frozen_of_block hz 1; have x2 := frozen_of_block hz 2; have HZY : Hid (w6.heap[w5.heap.size]? = some zSt) := hz; clear hz)); have HD6 : Hid (DoPost w6 _ P (zs.take m) f1 m1 e1 f2 m2 e2 f3 m3 e3 ev) := hd6; clear hd6 hb6x))
    all_goals (go_wp2_with fail; go_meet)
    all_goals first
      | with_reducible exact ⟨w6.heap.size, _, f1, m1, e1, f2, m2, e2, f3, m3, e3, rfl, box3_new w6 _ _ _ _, HD6.out.below (below1 w6 _), below_al hb6 _⟩
      | exact ⟨w5.heap.size, _, f1, m1, e1, f2, m2, e2, f3, m3, e3, rfl, box3_over HZY.out _ _ _, over_post HD6.out (by simp), below_set (below_set (below_set hb6 hb5.size) hb5.size) hb5.size⟩
      | exact ⟨W5.heap.size, _, f1, m1, e1, f2, m2, e2, f3, m3, e3, rfl, box3_over HZZ.out _ _ _, over_post HD6.out (lt_block HZ5.out), below_set (below_set (below_set hb6 (Nat.le_refl _)) (Nat.le_refl _)) (Nat.le_refl _)⟩
  case rest =>
  obtain ⟨rb, B2, g1, o1, i1, g2, o2, i2, g3, o3, i3, rfl, hx2, hd2, hb2⟩ := hcut
  obtain ⟨W6, rfl⟩ : ∃ W6, W6 = wc := ⟨_, rfl⟩
  have hfull : zs.take m = zs := by rw [HN.out.2.2.2]; exact List.take_length
  rw [hfull] at hd2
  have HX2 : Hid (Box3 W6 rb (.slice g1 o1 i1) (.slice g2 o2 i2) (.slice g3 o3 i3)) := hx2
  have HX1' : Hid (Box3 W6 sb (.slice f1 m1 e1) (.slice f2 m2 e2) (.slice f3 m3 e3)) := HX1.out.below hb2
  have HX0 : Hid (Box3 W6 w.heap.size (.slice a1 n1 c1) (.slice a2 n2 c2) (.slice a3 n3 c3)) := (X4.out.below hb1).below hb2
  have hd1 := HD1.out.below hb2
  have hb6w : Below w.heap.size w W6 := (hB4w.trans (hb1.mono hB4w.size)).trans (hb2.mono (Nat.le_trans hB4w.size hb1.size))
  clear KO KD HQ4 HX1 HD1 q0 q1 q2 hx2 X4
  rcases hd2.is with ⟨r2, rfl, -, t2, p2⟩ | ⟨r2, t, x, rfl⟩
  case inr =>
    rcases hd1.is with ⟨r1, rfl, -⟩ | ⟨r1, t', x', rfl⟩
    · clear hd1 hd2
      go_wp2_with fail
      go_ret
      exact ⟨rfl, hb6w⟩
    · clear hd1 hd2
      go_wp2_with fail
      go_ret
      exact ⟨rfl, hb6w⟩
  have hrun := runE_in r2
  rcases hd1.is with ⟨r1, rfl, -, t1, p1⟩ | ⟨r1, -⟩
  case inr => rw [runE_of hrun.1 (doneE_take hrun.2 k)] at r1; cases r1
  obtain ⟨hz2, hin⟩ := doneE_none hrun.2
  have hpk := do_places P zs (fun j hj => (hin j hj).1) k (by have := HN.out.2.2.2; omega)
  have hpm := do_places P zs (fun j hj => (hin j hj).1) m (by have := HN.out.2.2.2; omega)
  rw [hfull] at hpm
  obtain ⟨La, hLa⟩ : ∃ L, L = newF P (zs.take k) := ⟨_, rfl⟩
  obtain ⟨L, hL⟩ : ∃ L, L = newF P zs := ⟨_, rfl⟩
  obtain ⟨na, hna⟩ : ∃ n, n = La.length := ⟨_, rfl⟩
  obtain ⟨nb, hnb⟩ : ∃ n, n = L.length := ⟨_, rfl⟩
  have hle : na ≤ nb := by rw [hna, hnb, hLa, hL]; exact newF_le P zs k
  have hnb150 : nb ≤ 150 := by rw [hnb, hL]; have := newF_len P zs; have := HN.out.2.2.2; omega
  have htk : L.take na = La := by rw [hna, hLa, hL]; exact newF_take P zs k
  rw [hpk.1, ← hLa] at p1
  rw [hpm.1, ← hL] at p2
  obtain ⟨gt1, ct1, et1, -⟩ := t1
  obtain ⟨gt2, ct2, et2, -⟩ := t2
  rw [hpk.2, ← hLa, ← hna] at et1
  rw [hpm.2, ← hL, ← hnb] at et2
  obtain ⟨rfl, rfl, rfl⟩ : some ⟨gt1, 0, none⟩ = f2 ∧ na = m2 ∧ ct1 = e2 := by injection et1 with q1 q2 q3; exact ⟨q1.symm, q2.symm, q3.symm⟩
  obtain ⟨rfl, rfl, rfl⟩ : some ⟨gt2, 0, none⟩ = g2 ∧ nb = o2 ∧ ct2 = i2 := by injection et2 with q1 q2 q3; exact ⟨q1.symm, q2.symm, q3.symm⟩
  have hp1 := p1
  have hp2 := p2
  obtain ⟨-, pa1, pc1, ep1, -⟩ := p1
  obtain ⟨-, pa2, pc2, ep2, hpc2⟩ := p2
  rw [← hna] at ep1
  rw [← hnb] at ep2 hpc2
  obtain ⟨rfl, rfl, rfl⟩ : pa1 = f3 ∧ na = m3 ∧ pc1 = e3 := by injection ep1 with q1 q2 q3; exact ⟨q1.symm, q2.symm, q3.symm⟩
  obtain ⟨rfl, rfl, rfl⟩ : pa2 = g3 ∧ nb = o3 ∧ pc2 = i3 := by injection ep2 with q1 q2 q3; exact ⟨q1.symm, q2.symm, q3.symm⟩
  have hni3 : na ≤ pc2 := by omega
  have HP2 : Hid (∀ wx, Below W6.heap.size W6 wx → ∀ j, j < nb → ∃ b o, pa2 = some ⟨b, o, none⟩ ∧ wx.cell? ⟨b, o + j, none⟩ = some (.int .i64 (L.getD j 0))) := fun wx hwx j hj => isInts_at (hp2.1.below hwx) j (by omega)
  have KS : Hid (∀ wx, Below W6.heap.size W6 wx → Calls Tryd.prog 18 #[.slice pa1 na pc1, .slice pa2 na pc2] wx fun e w' => e = .returned (.bool true) ∧ Below W6.heap.size W6 w') := fun wx hwx => by
    refine (sameInts_true La _ _ wx (by omega) (hp1.1.below hwx) (by have := (isCap_take hp2 na (by omega)).1.below hwx; rw [htk] at this; exact this)).mono ?_
    rintro e w' ⟨rfl, hb⟩
    exact ⟨rfl, hwx.trans (hb.mono hwx.size)⟩
  have HNF : Hid (L = newF P zs ∧ nb = L.length ∧ zs.length = m) := ⟨hL, hnb, HN.out.2.2.2.symm⟩
  have HIN : Hid (∀ j, j < m → 0 ≤ zs.getD j 0 ∧ zs.getD j 0 < (n3 : Int)) := fun j hj => by rw [HN.out.2.2.1]; exact hin j (by have := HN.out.2.2.2; omega)
  have HZ6 : Hid (∀ wx, Below W6.heap.size W6 wx → ∀ j, j < m → ∃ b o, sa = some ⟨b, o, none⟩ ∧ wx.cell? ⟨b, o + j, none⟩ = some (.int .i64 (zs.getD j 0))) := fun wx hwx j hj => isInts_at ((HZ.out.below hb6w).below hwx).1 j (by have := HN.out.2.2.2; omega)
  have HP6 : Hid (∀ wx, Below W6.heap.size W6 wx → IsProg wx (.slice a1 n1 c1) (.slice a2 n2 c2) (.slice a3 n3 c3) P) := fun wx hwx => (H.out.below hb6w).below hwx
  obtain ⟨-, s1, s2⟩ := HX1'.out
  obtain ⟨-, t1, t2⟩ := HX2.out
  have KX : Hid (∀ wx, Below W6.heap.size W6 wx → wx.cell? ⟨w.heap.size, 2, none⟩ = some (.slice a3 n3 c3) ∧ wx.cell? ⟨rb, 2, none⟩ = some (.slice pa2 nb pc2)) := fun wx hwx => ⟨(HX0.out.below hwx).2.2, cell_keep hwx t2⟩
  clear hd1 hd2 hrun r1 r2 hpk hpm hLa hL hna hnb htk hp1 hp2 hin hz2 hfull HX0 HX1' HX2 H HZ hpc2
  go_upto_region 11 with fail
  go_region_held3 (fun wx => Below W6.heap.size W6 wx ∧ wx.cell? ⟨sb, 2, none⟩ = some (.slice pa1 na pc1) ∧ wx.cell? ⟨rb, 2, none⟩ = some (.slice pa2 nb pc2))
    ((go_split_ands; refine keep2 s2 t2 ?_; repeat (with_reducible first | assumption | exact Below.refl _ _ | refine Below.drew ?_)))
    (first | (go_at_call 18; refine (KS.out _ ?_).mono ?_; (go_split_ands; assumption); rintro e w7 ⟨rfl, hb7⟩))
  go_wp2_with fail
  clear KS s1 s2 t1 t2 hni3 hle
  go_loopw [13, 14] (fun u t wr => ∃ j : Nat, j ≤ m ∧ t = .int .i64 j ∧ u = .int .i64 (((newF P (zs.take j)).length : Nat) : Int) ∧ Below W6.heap.size W6 wr) (fun _ t _ => (m - intOf t).toNat)
  case atStart => exact ⟨0, Nat.zero_le _, rfl, rfl, hb7⟩
  case round =>
    obtain ⟨j, hj, rfl, rfl, hwr⟩ := hrel
    obtain ⟨many, hmany⟩ : ∃ n, n = (newF P (zs.take j)).length := ⟨_, rfl⟩
    rw [← hmany]
    obtain ⟨x0, x1⟩ := KX.out wr hwr
    by_cases hlt : j < m
    · obtain ⟨eb, eo, rfl, e0⟩ := HZ6.out wr hwr j hlt
      obtain ⟨i0, i1⟩ := HIN.out j hlt
      obtain ⟨zn, hzn⟩ : ∃ n, n = (zs.getD j 0).toNat := ⟨_, rfl⟩
      have hzz : zs.getD j 0 = (zn : Int) := by omega
      have hjl : j < zs.length := by rw [HNF.out.2.2]; exact hlt
      obtain ⟨tv, tc, etv, -, hts⟩ := (HP6.out wr hwr).stmts
      have hzl : zn < P.stmts.length := by rw [← HN.out.2.2.1]; omega
      obtain ⟨tb, tq, hta, pv, k0, -⟩ := hts zn hzl
      obtain rfl : some ⟨tb, tq, none⟩ = a3 := by injection etv with q1 _ _; rw [q1, hta]
      obtain ⟨bk, hbk⟩ : ∃ b, b = S (P.stmts.getD zn default).kind := ⟨_, rfl⟩
      rw [← hbk] at k0
      obtain ⟨D, hD⟩ : ∃ D, D = isNew P (zs.getD j 0) := ⟨_, rfl⟩
      have hkD : (bk.toList == [110, 101, 119]) = D := by rw [hbk, S_toList, hD]; unfold isNew; rw [hzz]; rfl
      have HDD : Hid (D = isNew P (zs.getD j 0)) := hD
      have HZZ : Hid (zs.getD j 0 = (zn : Int)) := hzz
      have HMY : Hid (many = (newF P (zs.take j)).length) := hmany
      have hji : (j : Int) < m := by omega
      have hzi : (zn : Int) < n3 := by omega
      rw [hzz] at e0
      clear hmany i0 i1 hzn hzz hts hta etv hbk hD hzl
      go_upto_region 17 with fail
      go_region_held3 (fun wx => wx.cell? ⟨w.heap.size, 2, none⟩ = some (.slice (some ⟨tb, tq, none⟩) n3 c3) ∧ wx.cell? ⟨eb, eo + j, none⟩ = some (.int .i64 (zn : Int)) ∧ wx.cell? ⟨tb, tq + zn * 4, none⟩ = some (.string bk))
        ((go_split_ands; exact ⟨x0, e0, k0⟩)) (fail)
      obtain ⟨W8, hW8⟩ : ∃ W8, W8 = wr.drew := ⟨_, rfl⟩
      have hB8 : Below W6.heap.size W6 W8 := by rw [hW8]; exact hwr.drew
      have hB8r : Below wr.heap.size wr W8 := by rw [hW8]; exact (Below.refl _ _).drew
      replace x1 := cell_keep hB8r x1
      replace e0 := cell_keep hB8r e0
      rw [← hW8]
      clear hW8 k0 x0 hB8r
      cases D with
      | false =>
        have HE1 : Hid ((newF P (zs.take (j + 1))).length = many) := by
          show _ = _
          rw [newF_snoc P zs j hjl, ← HDD.out, HMY.out]; simp
        clear hjl
        go_wp2_with fail
        go_roundw
        case rel => exact ⟨j + 1, hlt, by go_num, by rw [HE1.out], hB8⟩
        case measure => simp [intOf]; omega
      | true =>
        have HE1 : Hid ((newF P (zs.take (j + 1))).length = many + 1) := by
          show _ = _
          rw [newF_snoc P zs j hjl, ← HDD.out, HMY.out]; simp
        have hat := newF_at P zs j hjl HDD.out.symm
        rw [← HMY.out, ← HNF.out.1, ← HNF.out.2.1, HZZ.out] at hat
        obtain ⟨hmn, hatz⟩ := hat
        obtain ⟨gb, go', rfl, l0⟩ := HP2.out W8 hB8 many hmn
        rw [hatz] at l0
        have hmi : (many : Int) < nb := by omega
        clear hjl hatz
        go_upto_region 20 with fail
        go_region_held3 (fun wx => wx.cell? ⟨rb, 2, none⟩ = some (.slice (some ⟨gb, go', none⟩) nb pc2) ∧ wx.cell? ⟨eb, eo + j, none⟩ = some (.int .i64 (zn : Int)) ∧ wx.cell? ⟨gb, go' + many, none⟩ = some (.int .i64 (zn : Int)))
          ((go_split_ands; exact ⟨x1, e0, l0⟩)) (fail)
        go_wp2_with fail
        go_roundw
        case rel => exact ⟨j + 1, hlt, by go_num, by rw [HE1.out]; go_num, hB8.drew⟩
        case measure => simp [intOf]; omega
    · have hjm : j = m := by omega
      subst hjm
      have hmn : many = nb := by
        rw [hmany, HNF.out.2.1, HNF.out.1]
        rw [← HNF.out.2.2, List.take_length]
      subst hmn
      clear hmany
      go_wp2_with fail
      go_ret
      exact ⟨rfl, hb6w.trans (hwr.mono hb6w.size)⟩
end Go.Proofs.YtdbcjeccmjpbiabDoor

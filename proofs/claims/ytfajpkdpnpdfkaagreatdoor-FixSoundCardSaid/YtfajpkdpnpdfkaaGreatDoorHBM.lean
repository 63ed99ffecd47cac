/-
  FixSound answers true at every program and script that read as plain data.
-/
import Derived.Test.YtfajpkdpnpdfkaaGreatDoorHAM
import Derived.Test.YtfajpkdpnpdfkaaGreatDoorROM
import Derived.Test.YtfajpkdpnpdfkaaGreatDoorZFM
import Derived.Test.YtfajpkdpnpdfkaaGreatDoorXDM
import Derived.Deep.DeepCutAuto
import Derived.Deep.RegionHeld3
namespace Go.Proofs.YtfajpkdpnpdfkaaGreatDoor
open Go.RowKit Go.Extern.Stop Go.Stop Go.Extern

theorem bthenS {w0 w1 w2 : World} (h1 : Below w0.heap.size w0 w1) (h2 : Below w1.heap.size w1 w2) : Below w0.heap.size w0 w2 := h1.trans (h2.mono h1.size)
theorem objV_R {P : ProgD} {L : List (List Int)} {s : StD} (hc : checkE P = none) (h : Inv P L s) {r : Ref} (hr : r.ok P.vars.length P.funs.length s.things.length) : objV P s.places (refKind r).toList (refNo r : Int) = objR P s.places r := by
  cases r using ref_cases with
  | var i =>
    have h1 : i < P.vars.length := hr
    rw [objV_var (by show ¬ (i : Int) < 0; omega) (by simp only [refKind, ByteArray.toList_eq])]
    show (if (i : Int) < (P.vars.length : Int) then (i : Int) else -1) = (i : Int)
    rw [if_pos (by omega)]
  | thing t =>
    have h1 : t < s.things.length := hr
    obtain ⟨q1, q2, q3⟩ := h.pl t (by rw [h.lp]; exact h1)
    rw [objV_thing (by show ¬ (t : Int) < 0; omega) (by simp only [refKind, ByteArray.toList_eq])]
    show (if (t : Int) < (s.places.length : Int) then placeD P (s.places.getD ((t : Int)).toNat 0) else -1) = _
    rw [if_pos (by rw [h.lp]; omega), Int.toNat_natCast, placeD_in (by rw [hc]; rfl) ⟨q1, by omega, q3⟩]
    rfl
  | fn i =>
    have h1 : i < P.funs.length := hr
    rw [objV_fun (by show ¬ (i : Int) < 0; omega) (by simp only [refKind, ByteArray.toList_eq])]
    show (if (i : Int) < (P.funs.length : Int) then _ else -1) = _
    rw [if_pos (by omega)]
    rfl
theorem objR_nat {P : ProgD} {pl : List Int} (r : Ref) : ∃ n : Nat, objR P pl r = (n : Int) := by
  cases r using ref_cases with
  | var i => exact ⟨i, rfl⟩
  | thing t => exact ⟨_, rfl⟩
  | fn i => exact ⟨places P P.stmts.length + i, by show ((places P P.stmts.length : Nat) : Int) + (i : Int) = _; omega⟩
/-- What Object tells of what a variable or a thing has. -/
theorem value_obj {P : ProgD} {L : List (List Int)} {s : StD} (hc : checkE P = none) (h : Inv P L s) {r : Ref} (hr : r.ok P.vars.length P.funs.length s.things.length) (hf : r.isFn = false) :
    (objV P s.places (valK (s.get r)).toList (valN (s.get r)) = -1 ∧ ((valK (s.get r)).toList == [110, 111, 110, 101]) = true) ∨ ∃ n : Nat, objV P s.places (valK (s.get r)).toList (valN (s.get r)) = (n : Int) ∧ (n : Int) ∈ setAt L (objR P s.places r) ∧ ((valK (s.get r)).toList == [110, 111, 110, 101]) = false := by
  cases hx : s.get r with
  | none =>
    left
    exact ⟨objV_none (by simp only [valK, ByteArray.toList_eq]; decide), by simp only [valK, ByteArray.toList_eq]; decide⟩
  | some x =>
    right
    obtain ⟨q1, q2⟩ := h.has r hr hf x hx
    obtain ⟨n, hn⟩ := objR_nat (P := P) (pl := s.places) x
    refine ⟨n, ?_, by rw [← hn]; exact q2, ?_⟩
    · show objV P s.places (refKind x).toList (refNo x : Int) = _
      rw [objV_R hc h q1, hn]
    · show ((refKind x).toList == [110, 111, 110, 101]) = false
      cases x using ref_cases with
      | var i => simp only [refKind, ByteArray.toList_eq]; decide
      | thing i => simp only [refKind, ByteArray.toList_eq]; decide
      | fn i => simp only [refKind, ByteArray.toList_eq]; decide
set_option maxRecDepth 100000 in
set_option maxHeartbeats 32000000 in
theorem fixSound_any (a : Nat → Addr) (P : ProgD) (v1 v2 v3 sv : Value) (zs : List Int) (w : World) (h : IsProg w v1 v2 v3 P) (hz : IsCap w sv zs) (hE : Errs5 w a) (h3 : Three w a) :
    Calls Tryz.prog 5 #[.agg #[v1, v2, v3], sv] w fun e w' => e = .returned (.bool true) ∧ Below w.heap.size w w' := by
  have hz' := hz
  have H : Hid (IsProg w v1 v2 v3 P ∧ Errs5 w a ∧ Three w a) := ⟨h, hE, h3⟩
  obtain ⟨-, sa, sc, rfl, -⟩ := hz
  obtain ⟨⟨a1, c1, rfl, -, -⟩, ⟨a2, c2, rfl, -, -⟩, ⟨a3, c3, rfl, -, -⟩⟩ := h
  obtain ⟨n1, hn1⟩ : ∃ m, m = P.vars.length := ⟨_, rfl⟩
  obtain ⟨n2, hn2⟩ : ∃ m, m = P.funs.length := ⟨_, rfl⟩
  obtain ⟨n3, hn3⟩ : ∃ m, m = P.stmts.length := ⟨_, rfl⟩
  obtain ⟨m, hm⟩ : ∃ m, m = zs.length := ⟨_, rfl⟩
  have HN : Hid (n1 = P.vars.length ∧ n2 = P.funs.length ∧ n3 = P.stmts.length ∧ m = zs.length) := ⟨hn1, hn2, hn3, hm⟩
  rw [← hn1, ← hn2, ← hn3] at H ⊢
  rw [← hm] at hz' ⊢
  have HZ : Hid (IsCap w (.slice sa m sc) zs) := hz'
  clear hn1 hn2 hn3 hm hE h3 hz'
  obtain ⟨W, hW⟩ : ∃ W, W = w.alloc (.cells #[.slice a1 n1 c1, .slice a2 n2 c2, .slice a3 n3 c3] 26) := ⟨_, rfl⟩
  have hBW : Below w.heap.size w W := by rw [hW]; exact below1 w _
  have HBX : Hid (Box3 W w.heap.size (.slice a1 n1 c1) (.slice a2 n2 c2) (.slice a3 n3 c3)) := by
    show Box3 W _ _ _ _
    rw [hW]; exact box3_new w _ _ _ _
  have K1 : Hid (Calls Tryz.prog 22 #[] W fun e w' => e = .returned (.bool true) ∧ Below W.heap.size W w') := fixed_any a W (H.out.2.1.below hBW) (H.out.2.2.below hBW)
  rw [hW] at K1
  go_enter Tryz.func5, Tryz.ntmps5
  go_wp2_with fail
  refine K1.out.mono ?_
  rintro e w1 ⟨rfl, hB1⟩
  rw [← hW] at hB1
  clear K1 hW
  obtain ⟨p0, p1, p2⟩ := HBX.out.below hB1
  have hB1w : Below w.heap.size w w1 := hBW.trans (hB1.mono hBW.size)
  go_wp2_with fail
  refine (large_m 25 (by decide) P _ _ _ w1 (H.out.1.below hB1w)).mono ?_
  rintro e w2 ⟨r, rfl, hr, hB2⟩
  have hB2w : Below w.heap.size w w2 := hB1w.trans (hB2.mono hB1w.size)
  rcases hr with rfl | ⟨rfl, hs1, -, -⟩
  · go_wp2_with fail
    go_ret
    exact ⟨rfl, hB2w⟩
  have HS : Hid (SmallP P) := hs1
  have HX2 : Hid (Box3 w2 w.heap.size (.slice a1 n1 c1) (.slice a2 n2 c2) (.slice a3 n3 c3)) := HBX.out.below (bthenS hB1 hB2)
  clear hs1 p0 p1 p2
  obtain ⟨p0, p1, p2⟩ := HX2.out
  by_cases hm200 : (200 : Int) < m
  · go_wp2_with fail
    go_ret
    exact ⟨rfl, hB2w⟩
  go_wp2_with fail
  refine (ownProgram_any P _ _ _ w2 HS.out (H.out.1.below hB2w)).mono ?_
  rintro e w4 ⟨u1, u2, u3, rfl, hq, hB4⟩
  have HQ : Hid (IsProg w4 u1 u2 u3 P ∧ Below w.heap.size w w4 ∧ Box3 w4 w.heap.size (.slice a1 n1 c1) (.slice a2 n2 c2) (.slice a3 n3 c3)) := ⟨hq, bthenS hB2w hB4, HX2.out.below hB4⟩
  obtain ⟨⟨b1, d1, rfl, -, -⟩, ⟨b2, d2, rfl, -, -⟩, ⟨b3, d3, rfl, -, -⟩⟩ := hq
  rw [← HN.out.1, ← HN.out.2.1, ← HN.out.2.2.1] at HQ ⊢
  clear p0 p1 p2 hB1 hB2 hB4 hB1w hB2w hBW HBX HX2
  go_upto_region 5 with fail
  obtain ⟨W5, hW5⟩ : ∃ W5, W5 = w4.alloc (.cells #[.slice b1 n1 d1, .slice b2 n2 d2, .slice b3 n3 d3] 26) := ⟨_, rfl⟩
  have hB45 : Below w4.heap.size w4 W5 := by rw [hW5]; exact below1 w4 _
  have hX5 : Box3 W5 w4.heap.size (.slice b1 n1 d1) (.slice b2 n2 d2) (.slice b3 n3 d3) := by rw [hW5]; exact box3_new w4 _ _ _ _
  rw [← hW5]
  clear hW5
  obtain ⟨qb, hqb⟩ : ∃ b, b = w4.heap.size := ⟨_, rfl⟩
  rw [← hqb] at hX5 ⊢
  clear hqb
  have K5 : Hid (∀ wx, Below W5.heap.size W5 wx → Box3 wx qb (.slice b1 n1 d1) (.slice b2 n2 d2) (.slice b3 n3 d3) ∧ IsProg wx (.slice b1 n1 d1) (.slice b2 n2 d2) (.slice b3 n3 d3) P ∧ Box3 wx w.heap.size (.slice a1 n1 c1) (.slice a2 n2 c2) (.slice a3 n3 c3) ∧ Errs5 wx a ∧ Three wx a ∧ IsCap wx (.slice sa m sc) zs ∧ Below w.heap.size w wx) := fun wx hx => by
    have h4 : Below w4.heap.size w4 wx := bthenS hB45 hx
    have hw : Below w.heap.size w wx := bthenS HQ.out.2.1 h4
    exact ⟨hX5.below hx, HQ.out.1.below h4, HQ.out.2.2.below h4, H.out.2.1.below hw, H.out.2.2.below hw, HZ.out.below hw, hw⟩
  clear hB45 hX5 HQ
  obtain ⟨⟨y0, y1, y2⟩, -⟩ := K5.out W5 (Below.refl _ _)
  have KL : Hid (Calls Tryz.prog 23 #[.agg #[.slice b1 n1 d1, .slice b2 n2 d2, .slice b3 n3 d3]] W5 fun e w' => LeastPost a P W5 w' e) := by
    obtain ⟨-, r1, -, r2, r3, -⟩ := K5.out W5 (Below.refl _ _)
    exact least_any a P _ _ _ W5 HS.out r1 r2 r3
  go_wp2_with fail
  refine KL.out.mono ?_
  rintro e w7 ⟨la, ln, lc, ev7, k7, rfl, hcs, hb7⟩
  clear KL y0 y1 y2
  rcases hcs with ⟨hck, rfl, mf, rfl, hfx, hi7⟩ | ⟨hcb, hnil, rfl, hev⟩
  case inr =>
    injection hnil with q1 q2 q3
    subst q1 q2 q3
    obtain ⟨t, x, rfl⟩ : ∃ t x, ev7 = .iface t (.pointer (some x)) := by
      rcases hev.cases with ⟨q, _⟩ | ⟨_, q⟩
      · rw [q] at hcb; cases hcb
      · exact q
    have HBF : Hid (Below w.heap.size w w7) := (K5.out w7 hb7).2.2.2.2.2.2
    clear hev hcb
    go_wp2_with fail
    go_ret
    exact ⟨rfl, HBF.out⟩
  have hok := setsOk_iter hck mf
  have hll : ln = (iterD P mf).length := by
    obtain ⟨a', c', e', _⟩ := hi7
    injection e' with _ e2 _
  obtain ⟨L, hL⟩ : ∃ L, L = iterD P mf := ⟨_, rfl⟩
  have HLL : Hid (checkE P = none ∧ ln = L.length ∧ L.length = places P P.stmts.length ∧ Cl P L ∧ (∀ j, j < L.length → (L.getD j []).length ≤ 200) ∧ ln ≤ 200 ∧ n1 ≤ ln) := by
    obtain ⟨s1, s2, s3⟩ := right_small hck
    have hpl := places_le P P.stmts.length
    have hpg := places_ge P P.stmts.length
    have h1 := hok.len
    rw [hL]
    refine ⟨hck, hll, h1, Cl.of (hfx.closed hck), fun j hj => hok.short hck j hj, by omega, by rw [HN.out.1]; omega⟩
  rw [← hL] at hi7
  have HI7 : Hid (IsSets w7 (.slice la ln lc) L ∧ Below W5.heap.size W5 w7) := ⟨hi7, hb7⟩
  have hln200 := HLL.out.2.2.2.2.2.1
  have hn1l := HLL.out.2.2.2.2.2.2
  clear hck hok hll hL hfx hi7 hb7
  obtain ⟨W4, rfl⟩ : ∃ z, z = w7 := ⟨_, rfl⟩
  obtain ⟨⟨y0, y1, y2⟩, -⟩ := K5.out W4 HI7.out.2
  have HQ4 : Hid (∀ wx, Below W4.heap.size W4 wx → IsProg wx (.slice b1 n1 d1) (.slice b2 n2 d2) (.slice b3 n3 d3) P ∧ Errs5 wx a ∧ IsCap wx (.slice sa m sc) zs ∧ Box3 wx qb (.slice b1 n1 d1) (.slice b2 n2 d2) (.slice b3 n3 d3) ∧ Box3 wx w.heap.size (.slice a1 n1 c1) (.slice a2 n2 c2) (.slice a3 n3 c3) ∧ IsSets wx (.slice la ln lc) L ∧ Below w.heap.size w wx) := fun wx hwx => by
    obtain ⟨q1, q2, q3, q4, -, q6, q7⟩ := K5.out wx (bthenS HI7.out.2 hwx)
    exact ⟨q2, q4, q6, q1, q3, HI7.out.1.below hwx, q7⟩
  have hmz := HN.out.2.2.2
  have KO : Hid (∀ w0 wx, Below W4.heap.size W4 w0 → Below w0.heap.size w0 wx → Calls Tryz.prog 30 #[.slice sa m sc] wx fun e w' => ∃ pa pc, e = .returned (.slice pa m pc) ∧ IsInts w' (.slice pa m pc) zs ∧ Below w0.heap.size w0 w' ∧ Below wx.heap.size wx w') := fun w0 wx h0 hwx => by
    have hwx4 := h0.trans (hwx.mono h0.size)
    refine (ownInts_row zs (.slice sa m sc) wx (by omega) (HQ4.out wx hwx4).2.2.1.1).mono ?_
    rintro e w' ⟨pa, pc, rfl, ho, hb⟩
    rw [← hmz] at ho ⊢
    exact ⟨pa, pc, rfl, isInts_owns ho, hwx.trans (hb.mono hwx.size), hb⟩
  have KD : Hid (∀ w0 wx pa pc, Below W4.heap.size W4 w0 → Below w0.heap.size w0 wx → IsInts wx (.slice pa m pc) zs → Calls Tryz.prog 29 #[.agg #[.slice b1 n1 d1, .slice b2 n2 d2, .slice b3 n3 d3], .slice pa m pc] wx fun e w' => ∃ a1 m1 c1 a2 m2 c2 a3 m3 c3 ev, e = .returned (.tuple #[.agg #[.slice a1 m1 c1, .slice a2 m2 c2, .slice a3 m3 c3], ev]) ∧ DoPost w' wx.heap.size P zs a1 m1 c1 a2 m2 c2 a3 m3 c3 ev ∧ Below w0.heap.size w0 w' ∧ Below wx.heap.size wx w') := fun w0 wx pa pc h0 hwx hi => by
    have hwx4 := h0.trans (hwx.mono h0.size)
    refine (do_any a P _ _ _ _ zs wx HS.out (HQ4.out wx hwx4).1 (HQ4.out wx hwx4).2.1 hi (by omega)).mono ?_
    rintro e w' ⟨x1, x2, x3, x4, x5, x6, x7, x8, x9, ev, rfl, hd, hb⟩
    exact ⟨x1, x2, x3, x4, x5, x6, x7, x8, x9, ev, rfl, hd, hwx.trans (hb.mono hwx.size), hb⟩
  clear hmz
  go_upto_region 8 with fail
  go_cut [9, 10] (fun s9 s10 wx => ∃ sb B f1 m1 e1 f2 m2 e2 f3 m3 e3, s10 = .pointer (some ⟨sb, 0, none⟩) ∧ Box3 wx sb (.slice f1 m1 e1) (.slice f2 m2 e2) (.slice f3 m3 e3) ∧ DoPost wx B P zs f1 m1 e1 f2 m2 e2 f3 m3 e3 s9 ∧ Below W4.heap.size W4 wx)
  case first =>
    go_region_held3 (fun wx => Below W4.heap.size W4 wx ∧ wx.cell? ⟨qb, 0, none⟩ = some (.slice b1 n1 d1) ∧ wx.cell? ⟨qb, 1, none⟩ = some (.slice b2 n2 d2) ∧ wx.cell? ⟨qb, 2, none⟩ = some (.slice b3 n3 d3))
      ((go_split_ands; refine keep3 y0 y1 y2 ?_; repeat (with_reducible first | assumption | exact Below.refl _ _ | refine Below.drew ?_ | refine below_al ?_ _ | refine below_set ?_ (by first | exact Nat.le_refl _ | exact hb5.size))))
      (first
        | (go_at_call 30; refine (KO.out W4 _ (Below.refl _ _) ?_).mono ?_; (go_split_ands; assumption); rintro e w5 ⟨pa, pc, rfl, hi5, hb5, hb5x⟩; (try (have hz5 := block_keep hb5x (show ((W4.alloc zSt).drew).heap[W4.heap.size]? = some zSt from heap_new W4 _); have HZ5 : Hid (w5.heap[W4.heap.size]? = some zSt) := hz5; clear hz5)); clear hb5x)
        | (go_at_call 29; refine (KD.out W4 _ pa pc (Below.refl _ _) ?_ ?_).mono ?_; (go_split_ands; assumption); (first | exact hi5 | exact hi5.below (below1 _ _)); rintro e w6 ⟨f1, m1, e1, f2, m2, e2, f3, m3, e3, ev, rfl, hd6, hb6, hb6x⟩; (try (have hz := block_keep hb6x HZ5.out; have z0 := Lib.cell_of_heap hz 0; have z1 := Lib.cell_of_heap hz 1; have z2 := Lib.cell_of_heap hz 2; simp only [List.getElem?_toArray, List.getElem?_cons_zero, List.getElem?_cons_succ] at z0 z1 z2; have x0 := frozen_of_block hz 0; have x1 := frozen_of_block hz 1; have x2 := frozen_of_block hz 2; have HZZ : Hid (w6.heap[W4.heap.size]? = some zSt) := hz; clear hz)); (try (have hz := block_keep hb6x (heap_new w5 zSt); have z0 := Lib.cell_of_heap hz 0; have z1 := Lib.cell_of_heap hz 1; have z2 := Lib.cell_of_heap hz 2; simp only [List.getElem?_toArray, List.getElem?_cons_zero, List.getElem?_cons_succ] at z0 z1 z2; have x0 := frozen_of_block hz 0; have x1 := frozen_of_block hz 1; have x2 := frozen_of_block hz 2; have HZY : Hid (w6.heap[w5.heap.size]? = some zSt) := hz; clear hz)); have HD6 : Hid (DoPost w6 _ P zs f1 m1 e1 f2 m2 e2 f3 m3 e3 ev) := hd6; clear hd6 hb6x))
    all_goals (go_wp2_with fail; go_meet)
    all_goals first
      | with_reducible exact ⟨w6.heap.size, _, f1, m1, e1, f2, m2, e2, f3, m3, e3, rfl, box3_new w6 _ _ _ _, HD6.out.below (below1 w6 _), below_al hb6 _⟩
      | exact ⟨w5.heap.size, _, f1, m1, e1, f2, m2, e2, f3, m3, e3, rfl, box3_over HZY.out _ _ _, over_post HD6.out (by simp), below_set (below_set (below_set hb6 hb5.size) hb5.size) hb5.size⟩
      | exact ⟨W4.heap.size, _, f1, m1, e1, f2, m2, e2, f3, m3, e3, rfl, box3_over HZZ.out _ _ _, over_post HD6.out (lt_block HZ5.out), below_set (below_set (below_set hb6 (Nat.le_refl _)) (Nat.le_refl _)) (Nat.le_refl _)⟩
  case rest =>
  obtain ⟨sb, B1, f1, m1, e1, f2, m2, e2, f3, m3, e3, rfl, hx1, hd1, hb1⟩ := hcut
  obtain ⟨W9, rfl⟩ : ∃ W5, W5 = wc := ⟨_, rfl⟩
  obtain ⟨ev1, hev1⟩ : ∃ ev1, ev1 = u9 := ⟨_, rfl⟩
  rw [← hev1] at hd1 ⊢
  clear hev1 KO KD y0 y1 y2
  rcases hd1.is with ⟨hrun, rfl, hv1, hv2, hcap⟩ | ⟨-, t, x, rfl⟩
  case inr =>
    have HBF : Hid (Below w.heap.size w W9) := (HQ4.out W9 hb1).2.2.2.2.2.2
    clear hd1
    go_wp2_with fail
    go_ret
    exact ⟨rfl, HBF.out⟩
  obtain ⟨s, hs⟩ : ∃ s, s = doD P zs := ⟨_, rfl⟩
  rw [← hs] at hv1 hv2 hcap
  have HINV : Hid (Inv P L s) := by
    show Inv P L s
    rw [hs]
    obtain ⟨q1, q2⟩ := runE_in hrun
    exact Inv.done HLL.out.1 HS.out HLL.out.2.2.1 HLL.out.2.2.2.1 zs (doneE_none q2).2
  obtain ⟨g1, g1c, hg1, hvals1⟩ := hv1
  obtain ⟨g2, g2c, hg2, hvals2⟩ := hv2
  injection hg1 with r1 r2 r3
  injection hg2 with r4 r5 r6
  subst r1 r4
  obtain ⟨nt, hnt⟩ : ∃ k, k = s.things.length := ⟨_, rfl⟩
  have hm1 : m1 = n1 := by rw [r2, HINV.out.lv, HN.out.1]
  have hm2 : m2 = nt := by rw [r5, hnt]
  subst hm1 hm2
  have HV : Hid ((∀ wx, Below W9.heap.size W9 wx → (∀ j, j < m1 → wx.cell? ⟨g1, j * 2, none⟩ = some (.string (valK (s.get (.var j)))) ∧ wx.cell? ⟨g1, j * 2 + 1, none⟩ = some (.int .i64 (valN (s.get (.var j))))) ∧ (∀ j, j < m2 → wx.cell? ⟨g2, j * 2, none⟩ = some (.string (valK (s.get (.thing j)))) ∧ wx.cell? ⟨g2, j * 2 + 1, none⟩ = some (.int .i64 (valN (s.get (.thing j))))) ∧ IsInts wx (.slice f3 m3 e3) s.places ∧ Box3 wx sb (.slice (some ⟨g1, 0, none⟩) m1 e1) (.slice (some ⟨g2, 0, none⟩) m2 e2) (.slice f3 m3 e3) ∧ Below W4.heap.size W4 wx) ∧ m2 = s.things.length) := by
    refine ⟨fun wx hx => ⟨fun j hj => ?_, fun j hj => ?_, hcap.1.below hx, hx1.below hx, bthenS hb1 hx⟩, hnt⟩
    · obtain ⟨q1, q2⟩ := hvals1 j (by omega)
      exact ⟨cell_keep hx q1, cell_keep hx q2⟩
    · obtain ⟨q1, q2⟩ := hvals2 j (by omega)
      exact ⟨cell_keep hx q1, cell_keep hx q2⟩
  have hm2l : m2 ≤ 200 := by
    have h1 := do_things P zs zs.length (Nat.le_refl _)
    rw [List.take_length, ← hs, ← hnt] at h1
    have := HN.out.2.2.2
    omega
  clear hd1 hvals1 hvals2 hcap hx1 hb1 hs hnt r2 r3 r5 r6 hrun
  have KOB : Hid (∀ wx K N, Below W9.heap.size W9 wx → Calls Tryz.prog 31 #[.agg #[.slice b1 m1 d1, .slice b2 n2 d2, .slice b3 n3 d3], .agg #[.slice (some ⟨g1, 0, none⟩) m1 e1, .slice (some ⟨g2, 0, none⟩) m2 e2, .slice f3 m3 e3], .agg #[.string K, .int .i64 N]] wx fun e w' => e = .returned (.int .i64 (objV P s.places K.toList N)) ∧ Below wx.heap.size wx w') := fun wx K N hx => by
    obtain ⟨-, -, q3, -, q5⟩ := HV.out.1 wx hx
    obtain ⟨r1, r2, -⟩ := HQ4.out wx q5
    exact object_any a P _ _ _ _ _ _ s.places K N wx HS.out r1 r2 HLL.out.1 q3
  have KHAS : Hid (∀ wx, Below W9.heap.size W9 wx → ∀ (k : Nat) x, k < ln → ∃ b o xa xn xc, la = some ⟨b, o, none⟩ ∧ wx.cell? ⟨b, o + k, none⟩ = some (.slice xa xn xc) ∧ Calls Tryz.prog 32 #[.slice xa xn xc, .int .i64 x] wx fun e w' => e = .returned (.bool ((setAt L (k : Int)).contains x)) ∧ w' = wx) := fun wx hx k x hk => by
    obtain ⟨-, -, -, -, q5⟩ := HV.out.1 wx hx
    obtain ⟨-, -, -, -, -, r6, -⟩ := HQ4.out wx q5
    obtain ⟨a', c', e', q⟩ := r6
    injection e' with e1 e2 e3
    obtain ⟨b, o, xv, z1, z2, z3⟩ := q k (by rw [← HLL.out.2.1]; exact hk)
    obtain ⟨xa, xc, rfl⟩ := isInts_form z3
    refine ⟨b, o, xa, _, xc, by rw [e1, z1], z2, ?_⟩
    unfold setAt
    rw [Int.toNat_natCast]
    exact has_any _ _ x wx (by have := HLL.out.2.2.2.2.1 k (by rw [← HLL.out.2.1]; exact hk); omega) z3
  have HW9 : Hid (Box3 W9 sb (.slice (some ⟨g1, 0, none⟩) m1 e1) (.slice (some ⟨g2, 0, none⟩) m2 e2) (.slice f3 m3 e3)) := (HV.out.1 W9 (Below.refl _ _)).2.2.2.1
  obtain ⟨z0, z1, z2⟩ := HW9.out
  have hm140 : m1 ≤ 200 := by omega
  go_wp2_with fail
  go_loopw [11] (fun t11 wr => ∃ i : Nat, i ≤ m1 ∧ t11 = .int .i64 (i : Int) ∧ Below W9.heap.size W9 wr) (fun t11 _ => (m1 - intOf t11).toNat)
  case atStart => exact ⟨0, Nat.zero_le _, rfl, Below.refl _ _⟩
  case round =>
    clear z0 z1 z2
    obtain ⟨i, hi, rfl, hbr⟩ := hrel
    have HBR : Hid (Below W9.heap.size W9 wr) := hbr
    clear hbr
    obtain ⟨hva, -, -, ⟨z0, z1, z2⟩, hb4⟩ := HV.out.1 wr HBR.out
    obtain ⟨-, -, -, ⟨y0, y1, y2⟩, -⟩ := HQ4.out wr hb4
    by_cases hlt : i < m1
    · have hii : (i : Int) < m1 := by omega
      obtain ⟨q0, q1⟩ := hva i hlt
      have hok : (Ref.var i).ok P.vars.length P.funs.length s.things.length := by show i < P.vars.length; rw [← HN.out.1]; exact hlt
      have hvo := value_obj HLL.out.1 HINV.out hok rfl
      obtain ⟨kd, hkd⟩ : ∃ z, z = valK (s.get (.var i)) := ⟨_, rfl⟩
      obtain ⟨N, hN⟩ : ∃ z, z = valN (s.get (.var i)) := ⟨_, rfl⟩
      rw [← hkd] at q0 hvo
      rw [← hN] at q1 hvo
      obtain ⟨O, hO⟩ : ∃ z, z = objV P s.places kd.toList N := ⟨_, rfl⟩
      rw [← hO] at hvo
      have HVO : Hid ((O = -1 ∧ (kd.toList == [110, 111, 110, 101]) = true) ∨ ∃ n : Nat, O = (n : Int) ∧ (n : Int) ∈ setAt L (i : Int) ∧ (kd.toList == [110, 111, 110, 101]) = false) := hvo
      have KOW : Hid (∀ wx, Below wr.heap.size wr wx → Calls Tryz.prog 31 #[.agg #[.slice b1 m1 d1, .slice b2 n2 d2, .slice b3 n3 d3], .agg #[.slice (some ⟨g1, 0, none⟩) m1 e1, .slice (some ⟨g2, 0, none⟩) m2 e2, .slice f3 m3 e3], .agg #[.string kd, .int .i64 N]] wx fun e w' => e = .returned (.int .i64 O) ∧ Below wx.heap.size wx w') := fun wx hx => by
        rw [hO]
        exact KOB.out wx kd N (bthenS HBR.out hx)
      clear hva hb4 hok hvo hkd hN hO
      go_upto_region 14 with fail
      go_region_held3 (fun wx => Below wr.heap.size wr wx ∧ wx.cell? ⟨qb, 0, none⟩ = some (.slice b1 m1 d1) ∧ wx.cell? ⟨qb, 1, none⟩ = some (.slice b2 n2 d2) ∧ wx.cell? ⟨qb, 2, none⟩ = some (.slice b3 n3 d3) ∧ wx.cell? ⟨sb, 0, none⟩ = some (.slice (some ⟨g1, 0, none⟩) m1 e1) ∧ wx.cell? ⟨sb, 1, none⟩ = some (.slice (some ⟨g2, 0, none⟩) m2 e2) ∧ wx.cell? ⟨sb, 2, none⟩ = some (.slice f3 m3 e3) ∧ wx.cell? ⟨g1, i * 2, none⟩ = some (.string kd) ∧ wx.cell? ⟨g1, i * 2 + 1, none⟩ = some (.int .i64 N))
        ((go_split_ands; first | exact ⟨(Below.refl _ _).drew, y0, y1, y2, z0, z1, z2, q0, q1⟩ | exact ⟨(Below.refl _ _).drew.trans hb8, cell_keep hb8 y0, cell_keep hb8 y1, cell_keep hb8 y2, cell_keep hb8 z0, cell_keep hb8 z1, cell_keep hb8 z2, cell_keep hb8 q0, cell_keep hb8 q1⟩))
        ((go_at_call 31; refine (KOW.out _ ?_).mono ?_; (go_split_ands; assumption); rintro e w8 ⟨rfl, hb8⟩))
      have HB8 : Hid (Below wr.heap.size wr w8 ∧ Below W9.heap.size W9 w8) := by
        have h1 : Below wr.heap.size wr w8 := (Below.refl _ _).drew.trans hb8
        exact ⟨h1, bthenS HBR.out h1⟩
      replace z0 := cell_keep HB8.out.1 z0
      replace q0 := cell_keep HB8.out.1 q0
      clear hb8 y0 y1 y2 z1 z2 q1 KOW
      rcases HVO.out with ⟨hO1, hk1⟩ | ⟨n, hO1, hmem, hk1⟩
      · subst hO1
        go_wp2_with fail
        go_roundw
        case rel => exact ⟨i + 1, hlt, by go_num, HB8.out.2⟩
        case measure => simp [intOf]; omega
      · subst hO1
        obtain ⟨b, o, xa, xn, xc, rfl, x0, KC⟩ := KHAS.out w8 HB8.out.2 i (n : Int) (by omega)
        have KC' : Hid (Calls Tryz.prog 32 #[.slice xa xn xc, .int .i64 (n : Int)] w8 fun e w' => e = .returned (.bool true) ∧ w' = w8) := by
          rw [show (setAt L (i : Int)).contains (n : Int) = true by simpa using hmem] at KC
          exact KC
        have hil : (i : Int) < ln := by omega
        clear KC hmem
        go_wp2_with fail
        refine Calls.mono KC'.out ?_
        rintro e w10 ⟨rfl, hw10⟩
        obtain rfl := hw10.symm
        clear hw10
        go_wp2_with fail
        go_roundw
        case rel => exact ⟨i + 1, hlt, by go_num, HB8.out.2⟩
        case measure => simp [intOf]; omega
    · have hii : ¬ (i : Int) < m1 := by omega
      obtain ⟨W11, rfl⟩ : ∃ z, z = wr := ⟨_, rfl⟩
      clear hva hlt
      go_wp2_with fail
      clear z0 z1 z2 y0 y1 y2
      go_loopw [13] (fun t13 wr => ∃ i : Nat, i ≤ m2 ∧ t13 = .int .i64 (i : Int) ∧ Below W9.heap.size W9 wr) (fun t13 _ => (m2 - intOf t13).toNat)
      case atStart => exact ⟨0, Nat.zero_le _, rfl, HBR.out⟩
      case round =>
        clear hii hb4
        obtain ⟨j, hj, rfl, hbr⟩ := hrel
        have HBQ : Hid (Below W9.heap.size W9 wr) := hbr
        clear hbr
        obtain ⟨-, hva, -, ⟨z0, z1, z2⟩, hb4⟩ := HV.out.1 wr HBQ.out
        obtain ⟨-, -, -, ⟨y0, y1, y2⟩, ⟨p0, p1, p2⟩, -, hbw⟩ := HQ4.out wr hb4
        by_cases hlt : j < m2
        · have hjj : (j : Int) < m2 := by omega
          obtain ⟨q0, q1⟩ := hva j hlt
          have hjs : j < s.things.length := by rw [← HV.out.2]; exact hlt
          have hok : (Ref.thing j).ok P.vars.length P.funs.length s.things.length := hjs
          have hvo := value_obj HLL.out.1 HINV.out hok rfl
          obtain ⟨pn, hpn⟩ : ∃ k, k = places P (s.places.getD j 0).toNat := ⟨_, rfl⟩
          have hat : objV P s.places (⟨#[116, 104, 105, 110, 103]⟩ : ByteArray).toList (j : Int) = (pn : Int) := by
            have := objV_R HLL.out.1 HINV.out hok
            rw [hpn]
            exact this
          have hpn1 : m1 ≤ pn := by rw [hpn, HN.out.1]; exact places_ge P _
          have hpn2 : pn < ln := by
            obtain ⟨w1, w2, w3⟩ := HINV.out.pl j (by rw [HINV.out.lp]; exact hjs)
            have := places_lt P w2 w3
            rw [hpn, HLL.out.2.1, HLL.out.2.2.1]
            exact this
          obtain ⟨kd, hkd⟩ : ∃ z, z = valK (s.get (.thing j)) := ⟨_, rfl⟩
          obtain ⟨N, hN⟩ : ∃ z, z = valN (s.get (.thing j)) := ⟨_, rfl⟩
          rw [← hkd] at q0 hvo
          rw [← hN] at q1 hvo
          obtain ⟨O, hO⟩ : ∃ z, z = objV P s.places kd.toList N := ⟨_, rfl⟩
          rw [← hO] at hvo
          have HVO : Hid (O = -1 ∨ ∃ n : Nat, O = (n : Int) ∧ (n : Int) ∈ setAt L (pn : Int)) := by
            rcases hvo with ⟨u1, -⟩ | ⟨n, u1, u2, -⟩
            · exact Or.inl u1
            · refine Or.inr ⟨n, u1, ?_⟩
              rw [hpn]
              exact u2
          have KOW : Hid (∀ wx, Below wr.heap.size wr wx → Calls Tryz.prog 31 #[.agg #[.slice b1 m1 d1, .slice b2 n2 d2, .slice b3 n3 d3], .agg #[.slice (some ⟨g1, 0, none⟩) m1 e1, .slice (some ⟨g2, 0, none⟩) m2 e2, .slice f3 m3 e3], .agg #[.string kd, .int .i64 N]] wx fun e w' => e = .returned (.int .i64 O) ∧ Below wx.heap.size wx w') := fun wx hx => by
            rw [hO]
            exact KOB.out wx kd N (bthenS HBQ.out hx)
          have KAT : Hid (∀ wx, Below wr.heap.size wr wx → Calls Tryz.prog 31 #[.agg #[.slice b1 m1 d1, .slice b2 n2 d2, .slice b3 n3 d3], .agg #[.slice (some ⟨g1, 0, none⟩) m1 e1, .slice (some ⟨g2, 0, none⟩) m2 e2, .slice f3 m3 e3], .agg #[.string ⟨#[116, 104, 105, 110, 103]⟩, .int .i64 (j : Int)]] wx fun e w' => e = .returned (.int .i64 (pn : Int)) ∧ Below wx.heap.size wx w') := fun wx hx => by
            rw [← hat]
            exact KOB.out wx _ _ (bthenS HBQ.out hx)
          clear hva hb4 hok hvo hkd hN hO hat hpn hjs hbw
          go_upto_region 20 with fail
          go_region_held3 (fun wx => Below wr.heap.size wr wx ∧ wx.cell? ⟨qb, 0, none⟩ = some (.slice b1 m1 d1) ∧ wx.cell? ⟨qb, 1, none⟩ = some (.slice b2 n2 d2) ∧ wx.cell? ⟨qb, 2, none⟩ = some (.slice b3 n3 d3) ∧ wx.cell? ⟨sb, 0, none⟩ = some (.slice (some ⟨g1, 0, none⟩) m1 e1) ∧ wx.cell? ⟨sb, 1, none⟩ = some (.slice (some ⟨g2, 0, none⟩) m2 e2) ∧ wx.cell? ⟨sb, 2, none⟩ = some (.slice f3 m3 e3) ∧ wx.cell? ⟨g2, j * 2, none⟩ = some (.string kd) ∧ wx.cell? ⟨g2, j * 2 + 1, none⟩ = some (.int .i64 N))
            ((go_split_ands; first | exact ⟨(Below.refl _ _).drew, y0, y1, y2, z0, z1, z2, q0, q1⟩ | exact ⟨(Below.refl _ _).drew.trans hb8, cell_keep hb8 y0, cell_keep hb8 y1, cell_keep hb8 y2, cell_keep hb8 z0, cell_keep hb8 z1, cell_keep hb8 z2, cell_keep hb8 q0, cell_keep hb8 q1⟩))
            ((go_at_call 31; refine (KOW.out _ ?_).mono ?_; (go_split_ands; assumption); rintro e w8 ⟨rfl, hb8⟩))
          have HB8 : Hid (Below wr.heap.size wr w8) := (Below.refl _ _).drew.trans hb8
          replace z0 := cell_keep HB8.out z0
          replace z1 := cell_keep HB8.out z1
          replace z2 := cell_keep HB8.out z2
          replace y0 := cell_keep HB8.out y0
          replace y1 := cell_keep HB8.out y1
          replace y2 := cell_keep HB8.out y2
          replace p0 := cell_keep HB8.out p0
          clear hb8 q0 q1 KOW p1 p2
          go_wp2_with fail
          refine (KAT.out w8 HB8.out).mono ?_
          rintro e w9 ⟨rfl, hb9⟩
          have HB9 : Hid (Below W9.heap.size W9 w9) := bthenS HBQ.out (bthenS HB8.out hb9)
          replace p0 := cell_keep hb9 p0
          have hp1 : ¬ (pn : Int) < (m1 : Int) := by omega
          have hp2 : (pn : Int) < (ln : Int) := by omega
          clear hb9 y0 y1 y2 z0 z1 z2 KAT
          rcases HVO.out with hO1 | ⟨n, hO1, hmem⟩
          · subst hO1
            go_wp2_with fail
            go_roundw
            case rel => exact ⟨j + 1, hlt, by go_num, HB9.out⟩
            case measure => simp [intOf]; omega
          · subst hO1
            obtain ⟨b, o, xa, xn, xc, rfl, x0, KC⟩ := KHAS.out w9 HB9.out pn (n : Int) (by omega)
            have KC' : Hid (Calls Tryz.prog 32 #[.slice xa xn xc, .int .i64 (n : Int)] w9 fun e w' => e = .returned (.bool true) ∧ w' = w9) := by
              rw [show (setAt L (pn : Int)).contains (n : Int) = true by simpa using hmem] at KC
              exact KC
            clear KC hmem
            go_wp2_with fail
            refine Calls.mono KC'.out ?_
            rintro e w10 ⟨rfl, hw10⟩
            obtain rfl := hw10.symm
            clear hw10
            go_wp2_with fail
            go_roundw
            case rel => exact ⟨j + 1, hlt, by go_num, HB9.out⟩
            case measure => simp [intOf]; omega
        · have hjj : ¬ (j : Int) < m2 := by omega
          have HBF : Hid (Below w.heap.size w wr) := hbw
          clear hva hbw
          go_wp2_with fail
          go_ret
          exact ⟨rfl, HBF.out⟩
end Go.Proofs.YtfajpkdpnpdfkaaGreatDoor

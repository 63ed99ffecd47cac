/-
  ConsTells where the program is not right.
-/
import Derived.Test.YtfajpkdpnpdfkaaGreatDoorGGM
import Derived.Test.YtfajpkdpnpdfkaaGreatDoorGHM
import Derived.Test.YtfajpkdpnpdfkaaGreatDoorCNM
import Derived.Test.YtfajpkdpnpdfkaaGreatDoorCMM
import Derived.Test.YtfajpkdpnpdfkaaGreatDoorPZ2M
import Derived.Test.YtfajpkdpnpdfkaaGreatDoorBaseQM
import Derived.BigQuiet
namespace Go.Proofs.YtfajpkdpnpdfkaaGreatDoor
open Go.RowKit Go.Extern.Stop Go.Stop Go.Extern

set_option maxRecDepth 100000 in
set_option maxHeartbeats 32000000 in
theorem consTells_bad (a : Nat → Addr) (P : ProgD) (v1 v2 v3 hv : Value) (hs : List (List Int)) (w : World) (h : IsProg w v1 v2 v3 P) (hH : IsSets w hv hs) (hE : Errs w a) (hck : (checkE P).isNone = false) :
    Calls Tryz.prog 3 #[.agg #[v1, v2, v3], hv] w fun e w' => e = .returned (.bool true) ∧ Below w.heap.size w w' := by
  have H : Hid (IsProg w v1 v2 v3 P ∧ IsSets w hv hs ∧ Errs w a) := ⟨h, hH, hE⟩
  obtain ⟨⟨a1, c1, rfl, -, -⟩, ⟨a2, c2, rfl, -, -⟩, ⟨a3, c3, rfl, -, -⟩⟩ := h
  obtain ⟨ha, hc, rfl, -⟩ := hH
  obtain ⟨n1, hn1⟩ : ∃ m, m = P.vars.length := ⟨_, rfl⟩
  obtain ⟨n2, hn2⟩ : ∃ m, m = P.funs.length := ⟨_, rfl⟩
  obtain ⟨n3, hn3⟩ : ∃ m, m = P.stmts.length := ⟨_, rfl⟩
  obtain ⟨n, hnn⟩ : ∃ m, m = hs.length := ⟨_, rfl⟩
  have HN : Hid (n1 = P.vars.length ∧ n2 = P.funs.length ∧ n3 = P.stmts.length ∧ n = hs.length) := ⟨hn1, hn2, hn3, hnn⟩
  have HCK : Hid ((checkE P).isNone = false) := hck
  rw [← hn1, ← hn2, ← hn3] at H ⊢
  rw [← hnn] at H ⊢
  clear hn1 hn2 hn3 hnn hE hck
  obtain ⟨W, hW⟩ : ∃ W, W = w.alloc (.cells #[.slice a1 n1 c1, .slice a2 n2 c2, .slice a3 n3 c3] 26) := ⟨_, rfl⟩
  have hBW : Below w.heap.size w W := by rw [hW]; exact below1 w _
  have HBX : Hid (Box3 W w.heap.size (.slice a1 n1 c1) (.slice a2 n2 c2) (.slice a3 n3 c3)) := by
    show Box3 W _ _ _ _
    rw [hW]; exact box3_new w _ _ _ _
  have K1 : Hid (Calls Tryz.prog 7 #[] W fun e w' => e = .returned (.bool true) ∧ Below W.heap.size W w') := ruled_any a W (H.out.2.2.five.below hBW) (H.out.2.2.three.below hBW)
  rw [hW] at K1
  go_enter Tryz.func3, Tryz.ntmps3
  go_wp2_with fail
  refine K1.out.mono ?_
  rintro e w1 ⟨rfl, hB1⟩
  rw [← hW] at hB1
  clear K1 hW
  obtain ⟨p0, p1, p2⟩ := HBX.out.below hB1
  have hB1w : Below w.heap.size w w1 := hBW.trans (hB1.mono hBW.size)
  go_wp2_with fail
  refine (large_any P _ _ _ w1 (H.out.1.below hB1w)).mono ?_
  rintro e w2 ⟨r, rfl, hr, hB2⟩
  have hB2w : Below w.heap.size w w2 := hB1w.trans (hB2.mono hB1w.size)
  rcases hr with rfl | ⟨rfl, hs1, hs2⟩
  · go_wp2_with fail
    go_ret
    exact ⟨rfl, hB2w⟩
  have HS : Hid (SmallP P ∧ SmallN P) := ⟨hs1, hs2⟩
  clear hs1 hs2
  replace p0 := cell_keep hB2 p0
  replace p1 := cell_keep hB2 p1
  replace p2 := cell_keep hB2 p2
  go_wp2_with fail
  refine (largeSets_any hs _ w2 (H.out.2.1.below hB2w)).mono ?_
  rintro e w3 ⟨r, rfl, hr, hB3⟩
  have hB3w : Below w.heap.size w w3 := hB2w.trans (hB3.mono hB2w.size)
  rcases hr with rfl | ⟨rfl, hl50, hl60⟩
  · go_wp2_with fail
    go_ret
    exact ⟨rfl, hB3w⟩
  rw [← HN.out.2.2.2] at hl50 hl60
  replace p0 := cell_keep hB3 p0
  replace p1 := cell_keep hB3 p1
  replace p2 := cell_keep hB3 p2
  have HL : Hid (n ≤ 50 ∧ ∀ j, j < n → (hs.getD j []).length ≤ 60) := ⟨hl50, hl60⟩
  have HBX3 : Hid (Box3 w3 w.heap.size (.slice a1 n1 c1) (.slice a2 n2 c2) (.slice a3 n3 c3)) := HBX.out.below (bthen hB1 (bthen hB2 hB3))
  clear hl50 hl60 hB1 hB2 hB3 hB1w hB2w
  go_wp2_with fail
  refine (ownProgram_any P _ _ _ w3 HS.out.1 (H.out.1.below hB3w)).mono ?_
  rintro e w4 ⟨u1, u2, u3, rfl, hq, hB4⟩
  have HQ : Hid (IsProg w4 u1 u2 u3 P) := hq
  obtain ⟨⟨b1, d1, rfl, -, -⟩, ⟨b2, d2, rfl, -, -⟩, ⟨b3, d3, rfl, -, -⟩⟩ := hq
  rw [← HN.out.1, ← HN.out.2.1, ← HN.out.2.2.1] at HQ ⊢
  have HB4 : Hid (Below w.heap.size w w4 ∧ Box3 w4 w.heap.size (.slice a1 n1 c1) (.slice a2 n2 c2) (.slice a3 n3 c3)) := ⟨bthen hB3w hB4, HBX3.out.below hB4⟩
  clear p0 p1 p2 hB4 hB3w HBX hBW HBX3
  go_upto_region 5 with fail
  obtain ⟨W5, hW5⟩ : ∃ W5, W5 = w4.alloc (.cells #[.slice b1 n1 d1, .slice b2 n2 d2, .slice b3 n3 d3] 26) := ⟨_, rfl⟩
  have hB45 : Below w4.heap.size w4 W5 := by rw [hW5]; exact below1 w4 _
  have hX5 : Box3 W5 w4.heap.size (.slice b1 n1 d1) (.slice b2 n2 d2) (.slice b3 n3 d3) := by rw [hW5]; exact box3_new w4 _ _ _ _
  rw [← hW5]
  clear hW5
  obtain ⟨qb, hqb⟩ : ∃ b, b = w4.heap.size := ⟨_, rfl⟩
  rw [← hqb] at hX5 ⊢
  have HB5 : Hid (Below w.heap.size w W5 ∧ Box3 W5 w.heap.size (.slice a1 n1 c1) (.slice a2 n2 c2) (.slice a3 n3 c3) ∧ Box3 W5 qb (.slice b1 n1 d1) (.slice b2 n2 d2) (.slice b3 n3 d3) ∧ IsProg W5 (.slice b1 n1 d1) (.slice b2 n2 d2) (.slice b3 n3 d3) P) := ⟨bthen HB4.out.1 hB45, HB4.out.2.below hB45, hX5, HQ.out.below hB45⟩
  clear hqb hX5 hB45 HQ HB4
  have KOS : Hid (Calls Tryz.prog 11 #[.slice ha n hc] W5 fun e w' => ∃ ua uc, e = .returned (.slice ua n uc) ∧ IsSets w' (.slice ua n uc) hs ∧ Below W5.heap.size W5 w') := by
    refine (ownSets_any hs _ W5 (H.out.2.1.below HB5.out.1) (by rw [← HN.out.2.2.2]; have := HL.out.1; omega) (fun j hj => by have := HL.out.2 j (by rw [HN.out.2.2.2]; exact hj); omega)).mono ?_
    rintro e w' ⟨ua, uc, vs, rfl, ho, hb⟩
    rw [HN.out.2.2.2]
    exact ⟨ua, uc, rfl, ho.isSets, hb⟩
  go_wp2_with fail
  refine KOS.out.mono ?_
  rintro e w6 ⟨ua, uc, rfl, hos, hB6⟩
  have HB6 : Hid (Below w.heap.size w w6 ∧ Box3 w6 w.heap.size (.slice a1 n1 c1) (.slice a2 n2 c2) (.slice a3 n3 c3) ∧ Box3 w6 qb (.slice b1 n1 d1) (.slice b2 n2 d2) (.slice b3 n3 d3) ∧ IsProg w6 (.slice b1 n1 d1) (.slice b2 n2 d2) (.slice b3 n3 d3) P ∧ IsSets w6 (.slice ua n uc) hs) := ⟨bthen HB5.out.1 hB6, HB5.out.2.1.below hB6, HB5.out.2.2.1.below hB6, HB5.out.2.2.2.below hB6, hos⟩
  clear hB6 hos HB5 KOS
  obtain ⟨p0, p1, p2⟩ := HB6.out.2.1
  obtain ⟨c0, hc0⟩ : ∃ c, c = codeE (checkE P) := ⟨_, rfl⟩
  obtain ⟨e0, he0⟩ : ∃ c, c = placeE (checkE P) := ⟨_, rfl⟩
  have HC0 : Hid (c0 = codeE (checkE P) ∧ e0 = placeE (checkE P)) := ⟨hc0, he0⟩
  have KPF : Hid (Calls Tryz.prog 12 #[.agg #[.slice a1 n1 c1, .slice a2 n2 c2, .slice a3 n3 c3]] w6 fun e w' => e = .returned (.agg #[.int .i64 c0, .int .i64 e0]) ∧ Below w6.heap.size w6 w') := by
    have := refFault_any P _ _ _ w6 HS.out.1 HS.out.2 (H.out.1.below HB6.out.1)
    rw [← hc0, ← he0] at this
    exact this
  clear hc0 he0
  go_wp2_with fail
  refine KPF.out.mono ?_
  rintro e w7 ⟨rfl, hB7⟩
  have K : Hid (∀ wx, Below w7.heap.size w7 wx → Box3 wx w.heap.size (.slice a1 n1 c1) (.slice a2 n2 c2) (.slice a3 n3 c3) ∧ Box3 wx qb (.slice b1 n1 d1) (.slice b2 n2 d2) (.slice b3 n3 d3) ∧ IsProg wx (.slice a1 n1 c1) (.slice a2 n2 c2) (.slice a3 n3 c3) P ∧ IsProg wx (.slice b1 n1 d1) (.slice b2 n2 d2) (.slice b3 n3 d3) P ∧ IsSets wx (.slice ha n hc) hs ∧ IsSets wx (.slice ua n uc) hs ∧ Errs wx a ∧ Below w.heap.size w wx) := fun wx hx => by
    have h6 : Below w6.heap.size w6 wx := bthen hB7 hx
    have hw : Below w.heap.size w wx := bthen HB6.out.1 h6
    exact ⟨HB6.out.2.1.below h6, HB6.out.2.2.1.below h6, H.out.1.below hw, HB6.out.2.2.2.1.below h6, H.out.2.1.below hw, HB6.out.2.2.2.2.below h6, H.out.2.2.below hw, hw⟩
  clear hB7 KPF p0 p1 p2 HB6
  have gpos : 0 < c0 := by rw [HC0.out.1]; exact codeG_pos HCK.out
  have gz : ¬ c0 = 0 := by omega
  have HE1 : Hid ((consE P hs).isNone = false ∧ c0 = codeE (consE P hs) ∧ e0 = placeE (consE P hs)) := by
    show _ ∧ _
    rw [consG_bad HCK.out]; exact ⟨HCK.out, HC0.out⟩
  go_upto_region 7 with fail
  obtain ⟨W8, hW8⟩ : ∃ W8, W8 = w7.alloc (fltG c0 e0) := ⟨_, rfl⟩
  have hB78 : Below w7.heap.size w7 W8 := by rw [hW8]; exact below1 w7 _
  have hF8 : W8.heap[w7.heap.size]? = some (fltG c0 e0) := by rw [hW8]; exact heap_new w7 _
  rw [← hW8]
  clear hW8
  obtain ⟨fb, hfb⟩ : ∃ b, b = w7.heap.size := ⟨_, rfl⟩
  rw [← hfb] at hF8 ⊢
  have HF8 : Hid (W8.heap[fb]? = some (fltG c0 e0) ∧ Below w7.heap.size w7 W8 ∧ w7.heap.size ≤ fb) := ⟨hF8, hB78, by omega⟩
  clear hfb hF8 hB78
  obtain ⟨-, ⟨y0, y1, y2⟩, -⟩ := K.out W8 HF8.out.2.1
  have KO : Hid (Calls Tryz.prog 13 #[.agg #[.slice b1 n1 d1, .slice b2 n2 d2, .slice b3 n3 d3]] W8 fun e w' => ∃ v ev, e = .returned (.tuple #[v, ev]) ∧ ((checkE P = none ∧ ev = .nilIface ∧ IsRules w' v (rulesD P)) ∨ ((checkE P).isNone = false ∧ v = .slice none 0 0 ∧ ErrV w' a (checkE P) ev)) ∧ Below W8.heap.size W8 w') := by
    obtain ⟨-, -, -, r1, -, -, r2, -⟩ := K.out W8 HF8.out.2.1
    exact of_any a P _ _ _ W8 HS.out.1 r1 r2.five
  go_wp2_with fail
  refine KO.out.mono ?_
  rintro e w9 ⟨rv, ev, rfl, hcs, hB9⟩
  have HF9 : Hid (w9.heap[fb]? = some (fltG c0 e0) ∧ Below w7.heap.size w7 w9) := ⟨block_keep hB9 HF8.out.1, bthen HF8.out.2.1 hB9⟩
  clear KO y0 y1 y2
  have hev : rv = .slice none 0 0 ∧ ErrV w9 a (checkE P) ev := by
    rcases hcs with ⟨q, -, -⟩ | ⟨-, q1, q2⟩
    · have := HCK.out; rw [q] at this; cases this
    · exact ⟨q1, q2⟩
  obtain ⟨rfl, hev⟩ := hev
  have hform : ∃ t x, ev = .iface t (.pointer (some x)) := by
    rcases hev.cases with ⟨q, _⟩ | ⟨_, q⟩
    · have := HCK.out; rw [q] at this; cases this
    · exact q
  obtain ⟨t0, x0, rfl⟩ := hform
  clear hcs hB9
  obtain ⟨⟨f0, f1⟩, -⟩ := fltG_cells HF9.out.1
  have KF0 : Hid (Calls Tryz.prog 14 #[.iface t0 (.pointer (some x0)), .agg #[.int .i64 c0, .int .i64 e0]] w9 fun r w' => r = .returned (.bool true) ∧ Below w9.heap.size w9 w') := by
    obtain ⟨-, -, -, -, -, -, r3, -⟩ := K.out w9 HF9.out.2
    exact faulted_any a (checkE P) _ _ _ w9 r3 hev (fun x hx => checkE_lt hx) HC0.out.1 HC0.out.2
  clear hev
  go_wp2_with fail
  refine KF0.out.mono ?_
  rintro e w10 ⟨rfl, hB10⟩
  have HF10 : Hid (w10.heap[fb]? = some (fltG c0 e0) ∧ Below w7.heap.size w7 w10) := ⟨block_keep hB10 HF9.out.1, bthen HF9.out.2 hB10⟩
  clear hB10 KF0 f0 f1
  go_wp2_with fail
  go_loopw [11] (fun t11 wr => t11 = .int .i64 0 ∧ wr = w10) (fun _ _ => 0)
  case atStart => exact ⟨rfl, rfl⟩
  case round =>
    obtain ⟨rfl, hwr⟩ := hrel
    obtain rfl := hwr.symm
    clear hwr
    obtain ⟨⟨p0, p1, p2⟩, -⟩ := K.out w10 HF10.out.2
    obtain ⟨⟨f0, f1⟩, -⟩ := fltG_cells HF10.out.1
    have hn3c : ¬ (0 : Int) < n3 ∨ (0 : Int) < n3 := by omega
    rcases hn3c with hz | hz
    · skip
      obtain ⟨-, ⟨y0, y1, y2⟩, -⟩ := K.out w10 HF10.out.2
      have KE : Hid (Calls Tryz.prog 18 #[.agg #[.slice b1 n1 d1, .slice b2 n2 d2, .slice b3 n3 d3], .slice ua n uc] w10 fun e w' => ∃ ev, e = .returned (.tuple #[.slice none 0 0, ev]) ∧ ErrV w' a (consE P hs) ev ∧ Below (w10).heap.size w10 w') := by
        obtain ⟨-, -, -, r1, -, r2, r3, -⟩ := K.out w10 HF10.out.2
        refine (edges_any a P _ _ _ _ hs w10 HS.out.1 r1 r2 r3.five r3.three (by rw [← HN.out.2.2.2]; have := HL.out.1; omega) (fun j hj => by have := HL.out.2 j (by rw [HN.out.2.2.2]; exact hj); omega)).mono ?_
        rintro e w' ⟨v, ev, rfl, hcs, hb⟩
        rcases hcs with ⟨q, -, -⟩ | ⟨-, rfl, hev⟩
        · have := HE1.out.1; rw [q] at this; cases this
        · exact ⟨ev, rfl, hev, hb⟩
      go_wp2_with fail
      refine KE.out.mono ?_
      rintro e w20 ⟨ev1, rfl, hev1, hb20⟩
      have HV1 : Hid (ErrV w20 a (consE P hs) ev1 ∧ Below w7.heap.size w7 w20 ∧ w20.heap[fb]? = some (fltG c0 e0)) := ⟨hev1, bthen HF10.out.2 hb20, block_keep hb20 HF10.out.1⟩
      have hform : ∃ t x, ev1 = .iface t (.pointer (some x)) := by
        rcases hev1.cases with ⟨q, _⟩ | ⟨_, q⟩
        · have := HE1.out.1; rw [q] at this; cases this
        · exact q
      obtain ⟨t1, x1, rfl⟩ := hform
      clear hev1 hb20 KE y0 y1 y2
      obtain ⟨-, ⟨y0, y1, y2⟩, -⟩ := K.out w20 HV1.out.2.1
      have KC : Hid (Calls Tryz.prog 19 #[.agg #[.slice b1 n1 d1, .slice b2 n2 d2, .slice b3 n3 d3], .slice ua n uc] w20 fun e w' => ∃ ev, e = .returned (.tuple #[.bool false, ev]) ∧ ErrV w' a (consE P hs) ev ∧ Below w20.heap.size w20 w') := by
        obtain ⟨-, -, -, r1, -, r2, r3, -⟩ := K.out w20 HV1.out.2.1
        refine (closed_any a P _ _ _ _ hs w20 HS.out.1 r1 r2 r3.five r3.three (by rw [← HN.out.2.2.2]; have := HL.out.1; omega) (fun j hj => by have := HL.out.2 j (by rw [HN.out.2.2.2]; exact hj); omega)).mono ?_
        rintro e w' ⟨b, ev, rfl, hcs, hb⟩
        rcases hcs with ⟨q, -, -⟩ | ⟨-, rfl, hev⟩
        · have := HE1.out.1; rw [q] at this; cases this
        · exact ⟨ev, rfl, hev, hb⟩
      go_wp2_with fail
      refine KC.out.mono ?_
      rintro e w21 ⟨ev2, rfl, hev2, hb21⟩
      have HV2 : Hid (ErrV w21 a (consE P hs) ev2 ∧ ErrV w21 a (consE P hs) (.iface t1 (.pointer (some x1))) ∧ Below w7.heap.size w7 w21 ∧ w21.heap[fb]? = some (fltG c0 e0)) := ⟨hev2, HV1.out.1.below hb21, bthen HV1.out.2.1 hb21, block_keep hb21 HV1.out.2.2⟩
      have hform : ∃ t x, ev2 = .iface t (.pointer (some x)) := by
        rcases hev2.cases with ⟨q, _⟩ | ⟨_, q⟩
        · have := HE1.out.1; rw [q] at this; cases this
        · exact q
      obtain ⟨t2, x2, rfl⟩ := hform
      clear hev2 hb21 KC y0 y1 y2
      obtain ⟨⟨f0, f1⟩, -⟩ := fltG_cells HV2.out.2.2.2
      have KF : Hid (∀ v wx, Below w21.heap.size w21 wx → ErrV w21 a (consE P hs) v → Calls Tryz.prog 14 #[v, .agg #[.int .i64 c0, .int .i64 e0]] wx fun r w' => r = .returned (.bool true) ∧ Below wx.heap.size wx w') := fun v wx hx hv => by
        obtain ⟨-, -, -, -, -, -, r3, -⟩ := K.out wx (bthen HV2.out.2.2.1 hx)
        exact faulted_any a (consE P hs) v _ _ wx r3 (hv.below hx) (fun x hx => consE_lt hx) HE1.out.2.1 HE1.out.2.2
      go_wp2_with fail
      refine (KF.out _ w21 (Below.refl _ _) HV2.out.2.1).mono ?_
      rintro e w22 ⟨rfl, hb22⟩
      replace f0 := cell_keep hb22 f0
      replace f1 := cell_keep hb22 f1
      go_wp2_with fail
      refine (KF.out _ w22 hb22 HV2.out.1).mono ?_
      rintro e w23 ⟨rfl, hb23⟩
      have HBF : Hid (Below w.heap.size w w23) := (K.out w23 (bthen (bthen HV2.out.2.2.1 hb22) hb23)).2.2.2.2.2.2.2
      go_wp2_with fail
      go_ret
      exact ⟨rfl, HBF.out⟩
    · obtain ⟨-, ⟨y0, y1, y2⟩, -⟩ := K.out w10 HF10.out.2
      have KE : Hid (Calls Tryz.prog 18 #[.agg #[.slice b1 n1 d1, .slice b2 n2 d2, .slice b3 n3 d3], .slice ua n uc] w10 fun e w' => ∃ ev, e = .returned (.tuple #[.slice none 0 0, ev]) ∧ ErrV w' a (consE P hs) ev ∧ Below (w10).heap.size w10 w') := by
        obtain ⟨-, -, -, r1, -, r2, r3, -⟩ := K.out w10 HF10.out.2
        refine (edges_any a P _ _ _ _ hs w10 HS.out.1 r1 r2 r3.five r3.three (by rw [← HN.out.2.2.2]; have := HL.out.1; omega) (fun j hj => by have := HL.out.2 j (by rw [HN.out.2.2.2]; exact hj); omega)).mono ?_
        rintro e w' ⟨v, ev, rfl, hcs, hb⟩
        rcases hcs with ⟨q, -, -⟩ | ⟨-, rfl, hev⟩
        · have := HE1.out.1; rw [q] at this; cases this
        · exact ⟨ev, rfl, hev, hb⟩
      go_wp2_with fail
      refine KE.out.mono ?_
      rintro e w20 ⟨ev1, rfl, hev1, hb20⟩
      have HV1 : Hid (ErrV w20 a (consE P hs) ev1 ∧ Below w7.heap.size w7 w20 ∧ w20.heap[fb]? = some (fltG c0 e0)) := ⟨hev1, bthen HF10.out.2 hb20, block_keep hb20 HF10.out.1⟩
      have hform : ∃ t x, ev1 = .iface t (.pointer (some x)) := by
        rcases hev1.cases with ⟨q, _⟩ | ⟨_, q⟩
        · have := HE1.out.1; rw [q] at this; cases this
        · exact q
      obtain ⟨t1, x1, rfl⟩ := hform
      clear hev1 hb20 KE y0 y1 y2
      obtain ⟨-, ⟨y0, y1, y2⟩, -⟩ := K.out w20 HV1.out.2.1
      have KC : Hid (Calls Tryz.prog 19 #[.agg #[.slice b1 n1 d1, .slice b2 n2 d2, .slice b3 n3 d3], .slice ua n uc] w20 fun e w' => ∃ ev, e = .returned (.tuple #[.bool false, ev]) ∧ ErrV w' a (consE P hs) ev ∧ Below w20.heap.size w20 w') := by
        obtain ⟨-, -, -, r1, -, r2, r3, -⟩ := K.out w20 HV1.out.2.1
        refine (closed_any a P _ _ _ _ hs w20 HS.out.1 r1 r2 r3.five r3.three (by rw [← HN.out.2.2.2]; have := HL.out.1; omega) (fun j hj => by have := HL.out.2 j (by rw [HN.out.2.2.2]; exact hj); omega)).mono ?_
        rintro e w' ⟨b, ev, rfl, hcs, hb⟩
        rcases hcs with ⟨q, -, -⟩ | ⟨-, rfl, hev⟩
        · have := HE1.out.1; rw [q] at this; cases this
        · exact ⟨ev, rfl, hev, hb⟩
      go_wp2_with fail
      refine KC.out.mono ?_
      rintro e w21 ⟨ev2, rfl, hev2, hb21⟩
      have HV2 : Hid (ErrV w21 a (consE P hs) ev2 ∧ ErrV w21 a (consE P hs) (.iface t1 (.pointer (some x1))) ∧ Below w7.heap.size w7 w21 ∧ w21.heap[fb]? = some (fltG c0 e0)) := ⟨hev2, HV1.out.1.below hb21, bthen HV1.out.2.1 hb21, block_keep hb21 HV1.out.2.2⟩
      have hform : ∃ t x, ev2 = .iface t (.pointer (some x)) := by
        rcases hev2.cases with ⟨q, _⟩ | ⟨_, q⟩
        · have := HE1.out.1; rw [q] at this; cases this
        · exact q
      obtain ⟨t2, x2, rfl⟩ := hform
      clear hev2 hb21 KC y0 y1 y2
      obtain ⟨⟨f0, f1⟩, -⟩ := fltG_cells HV2.out.2.2.2
      have KF : Hid (∀ v wx, Below w21.heap.size w21 wx → ErrV w21 a (consE P hs) v → Calls Tryz.prog 14 #[v, .agg #[.int .i64 c0, .int .i64 e0]] wx fun r w' => r = .returned (.bool true) ∧ Below wx.heap.size wx w') := fun v wx hx hv => by
        obtain ⟨-, -, -, -, -, -, r3, -⟩ := K.out wx (bthen HV2.out.2.2.1 hx)
        exact faulted_any a (consE P hs) v _ _ wx r3 (hv.below hx) (fun x hx => consE_lt hx) HE1.out.2.1 HE1.out.2.2
      go_wp2_with fail
      refine (KF.out _ w21 (Below.refl _ _) HV2.out.2.1).mono ?_
      rintro e w22 ⟨rfl, hb22⟩
      replace f0 := cell_keep hb22 f0
      replace f1 := cell_keep hb22 f1
      go_wp2_with fail
      refine (KF.out _ w22 hb22 HV2.out.1).mono ?_
      rintro e w23 ⟨rfl, hb23⟩
      have HBF : Hid (Below w.heap.size w w23) := (K.out w23 (bthen (bthen HV2.out.2.2.1 hb22) hb23)).2.2.2.2.2.2.2
      go_wp2_with fail
      go_ret
      exact ⟨rfl, HBF.out⟩
end Go.Proofs.YtfajpkdpnpdfkaaGreatDoor

/-
  ConsTells where the program is right.
-/
namespace Go.Proofs.YtfajpkdpnpdfkaaGreatDoor
open Go.RowKit Go.Extern.Stop Go.Stop Go.Extern

set_option maxRecDepth 100000 in
set_option maxHeartbeats 32000000 in
theorem consTells_ok (a : Nat → Addr) (P : ProgD) (v1 v2 v3 hv : Value) (hs : List (List Int)) (w : World) (h : IsProg w v1 v2 v3 P) (hH : IsSets w hv hs) (hE : Errs w a) (hck : checkE P = none) :
    Calls Tryz.prog 3 #[.agg #[v1, v2, v3], hv] w fun e w' => e = .returned (.bool true) ∧ Below w.heap.size w w' := by
  have H : Hid (IsProg w v1 v2 v3 P ∧ IsSets w hv hs ∧ Errs w a) := ⟨h, hH, hE⟩
  obtain ⟨⟨a1, c1, rfl, -, -⟩, ⟨a2, c2, rfl, -, -⟩, ⟨a3, c3, rfl, -, -⟩⟩ := h
  obtain ⟨ha, hc, rfl, -⟩ := hH
  obtain ⟨n1, hn1⟩ : ∃ m, m = P.vars.length := ⟨_, rfl⟩
  obtain ⟨n2, hn2⟩ : ∃ m, m = P.funs.length := ⟨_, rfl⟩
  obtain ⟨n3, hn3⟩ : ∃ m, m = P.stmts.length := ⟨_, rfl⟩
  obtain ⟨n, hnn⟩ : ∃ m, m = hs.length := ⟨_, rfl⟩
  have HN : Hid (n1 = P.vars.length ∧ n2 = P.funs.length ∧ n3 = P.stmts.length ∧ n = hs.length) := ⟨hn1, hn2, hn3, hnn⟩
  have HCK : Hid (checkE P = none) := hck
  rw [← hn1, ← hn2, ← hn3] at H ⊢
  rw [← hnn] at H ⊢
  clear hn1 hn2 hn3 hnn hE hck
  obtain ⟨W, hW⟩ : ∃ W, W = w.alloc (.cells #[.slice a1 n1 c1, .slice a2 n2 c2, .slice a3 n3 c3] 26) := ⟨_, rfl⟩
  have hBW : Below w.heap.size w W := by rw [hW]; exact below1 w _
  have HBX : Hid (Box3 W w.heap.size (.slice a1 n1 c1) (.slice a2 n2 c2) (.slice a3 n3 c3)) := by
    show Box3 W _ _ _ _
    rw [hW]; exact box3_new w _ _ _ _
  have K1 : Hid (Calls Tryz.prog 7 #[] W fun e w' => e = .returned (.bool true) ∧ Below W.heap.size W w') := ruled_any a W (H.out.2.2.five.below hBW) (H.out.2.2.three.below hBW)
  rw [hW] at K1
  go_enter Tryz.func3, Tryz.ntmps3
  go_wp2_with fail
  refine K1.out.mono ?_
  rintro e w1 ⟨rfl, hB1⟩
  rw [← hW] at hB1
  clear K1 hW
  obtain ⟨p0, p1, p2⟩ := HBX.out.below hB1
  have hB1w : Below w.heap.size w w1 := hBW.trans (hB1.mono hBW.size)
  go_wp2_with fail
  refine (large_any P _ _ _ w1 (H.out.1.below hB1w)).mono ?_
  rintro e w2 ⟨r, rfl, hr, hB2⟩
  have hB2w : Below w.heap.size w w2 := hB1w.trans (hB2.mono hB1w.size)
  rcases hr with rfl | ⟨rfl, hs1, hs2⟩
  · go_wp2_with fail
    go_ret
    exact ⟨rfl, hB2w⟩
  have HS : Hid (SmallP P ∧ SmallN P) := ⟨hs1, hs2⟩
  clear hs1 hs2
  replace p0 := cell_keep hB2 p0
  replace p1 := cell_keep hB2 p1
  replace p2 := cell_keep hB2 p2
  go_wp2_with fail
  refine (largeSets_any hs _ w2 (H.out.2.1.below hB2w)).mono ?_
  rintro e w3 ⟨r, rfl, hr, hB3⟩
  have hB3w : Below w.heap.size w w3 := hB2w.trans (hB3.mono hB2w.size)
  rcases hr with rfl | ⟨rfl, hl50, hl60⟩
  · go_wp2_with fail
    go_ret
    exact ⟨rfl, hB3w⟩
  rw [← HN.out.2.2.2] at hl50 hl60
  replace p0 := cell_keep hB3 p0
  replace p1 := cell_keep hB3 p1
  replace p2 := cell_keep hB3 p2
  have HL : Hid (n ≤ 50 ∧ ∀ j, j < n → (hs.getD j []).length ≤ 60) := ⟨hl50, hl60⟩
  have HBX3 : Hid (Box3 w3 w.heap.size (.slice a1 n1 c1) (.slice a2 n2 c2) (.slice a3 n3 c3)) := HBX.out.below (bthen hB1 (bthen hB2 hB3))
  clear hl50 hl60 hB1 hB2 hB3 hB1w hB2w
  go_wp2_with fail
  refine (ownProgram_any P _ _ _ w3 HS.out.1 (H.out.1.below hB3w)).mono ?_
  rintro e w4 ⟨u1, u2, u3, rfl, hq, hB4⟩
  have HQ : Hid (IsProg w4 u1 u2 u3 P) := hq
  obtain ⟨⟨b1, d1, rfl, -, -⟩, ⟨b2, d2, rfl, -, -⟩, ⟨b3, d3, rfl, -, -⟩⟩ := hq
  rw [← HN.out.1, ← HN.out.2.1, ← HN.out.2.2.1] at HQ ⊢
  have HB4 : Hid (Below w.heap.size w w4 ∧ Box3 w4 w.heap.size (.slice a1 n1 c1) (.slice a2 n2 c2) (.slice a3 n3 c3)) := ⟨bthen hB3w hB4, HBX3.out.below hB4⟩
  clear p0 p1 p2 hB4 hB3w HBX hBW HBX3
  go_upto_region 5 with fail
  obtain ⟨W5, hW5⟩ : ∃ W5, W5 = w4.alloc (.cells #[.slice b1 n1 d1, .slice b2 n2 d2, .slice b3 n3 d3] 26) := ⟨_, rfl⟩
  have hB45 : Below w4.heap.size w4 W5 := by rw [hW5]; exact below1 w4 _
  have hX5 : Box3 W5 w4.heap.size (.slice b1 n1 d1) (.slice b2 n2 d2) (.slice b3 n3 d3) := by rw [hW5]; exact box3_new w4 _ _ _ _
  rw [← hW5]
  clear hW5
  obtain ⟨qb, hqb⟩ : ∃ b, b = w4.heap.size := ⟨_, rfl⟩
  rw [← hqb] at hX5 ⊢
  have HB5 : Hid (Below w.heap.size w W5 ∧ Box3 W5 w.heap.size (.slice a1 n1 c1) (.slice a2 n2 c2) (.slice a3 n3 c3) ∧ Box3 W5 qb (.slice b1 n1 d1) (.slice b2 n2 d2) (.slice b3 n3 d3) ∧ IsProg W5 (.slice b1 n1 d1) (.slice b2 n2 d2) (.slice b3 n3 d3) P) := ⟨bthen HB4.out.1 hB45, HB4.out.2.below hB45, hX5, HQ.out.below hB45⟩
  clear hqb hX5 hB45 HQ HB4
  have KOS : Hid (Calls Tryz.prog 11 #[.slice ha n hc] W5 fun e w' => ∃ ua uc, e = .returned (.slice ua n uc) ∧ IsSets w' (.slice ua n uc) hs ∧ Below W5.heap.size W5 w') := by
    refine (ownSets_any hs _ W5 (H.out.2.1.below HB5.out.1) (by rw [← HN.out.2.2.2]; have := HL.out.1; omega) (fun j hj => by have := HL.out.2 j (by rw [HN.out.2.2.2]; exact hj); omega)).mono ?_
    rintro e w' ⟨ua, uc, vs, rfl, ho, hb⟩
    rw [HN.out.2.2.2]
    exact ⟨ua, uc, rfl, ho.isSets, hb⟩
  go_wp2_with fail
  refine KOS.out.mono ?_
  rintro e w6 ⟨ua, uc, rfl, hos, hB6⟩
  have HB6 : Hid (Below w.heap.size w w6 ∧ Box3 w6 w.heap.size (.slice a1 n1 c1) (.slice a2 n2 c2) (.slice a3 n3 c3) ∧ Box3 w6 qb (.slice b1 n1 d1) (.slice b2 n2 d2) (.slice b3 n3 d3) ∧ IsProg w6 (.slice b1 n1 d1) (.slice b2 n2 d2) (.slice b3 n3 d3) P ∧ IsSets w6 (.slice ua n uc) hs) := ⟨bthen HB5.out.1 hB6, HB5.out.2.1.below hB6, HB5.out.2.2.1.below hB6, HB5.out.2.2.2.below hB6, hos⟩
  clear hB6 hos HB5 KOS
  obtain ⟨p0, p1, p2⟩ := HB6.out.2.1
  obtain ⟨c0, hc0⟩ : ∃ c, c = codeE (checkE P) := ⟨_, rfl⟩
  obtain ⟨e0, he0⟩ : ∃ c, c = placeE (checkE P) := ⟨_, rfl⟩
  have HC0 : Hid (c0 = codeE (checkE P) ∧ e0 = placeE (checkE P)) := ⟨hc0, he0⟩
  have KPF : Hid (Calls Tryz.prog 12 #[.agg #[.slice a1 n1 c1, .slice a2 n2 c2, .slice a3 n3 c3]] w6 fun e w' => e = .returned (.agg #[.int .i64 c0, .int .i64 e0]) ∧ Below w6.heap.size w6 w') := by
    have := refFault_any P _ _ _ w6 HS.out.1 HS.out.2 (H.out.1.below HB6.out.1)
    rw [← hc0, ← he0] at this
    exact this
  clear hc0 he0
  go_wp2_with fail
  refine KPF.out.mono ?_
  rintro e w7 ⟨rfl, hB7⟩
  have K : Hid (∀ wx, Below w7.heap.size w7 wx → Box3 wx w.heap.size (.slice a1 n1 c1) (.slice a2 n2 c2) (.slice a3 n3 c3) ∧ Box3 wx qb (.slice b1 n1 d1) (.slice b2 n2 d2) (.slice b3 n3 d3) ∧ IsProg wx (.slice a1 n1 c1) (.slice a2 n2 c2) (.slice a3 n3 c3) P ∧ IsProg wx (.slice b1 n1 d1) (.slice b2 n2 d2) (.slice b3 n3 d3) P ∧ IsSets wx (.slice ha n hc) hs ∧ IsSets wx (.slice ua n uc) hs ∧ Errs wx a ∧ Below w.heap.size w wx) := fun wx hx => by
    have h6 : Below w6.heap.size w6 wx := bthen hB7 hx
    have hw : Below w.heap.size w wx := bthen HB6.out.1 h6
    exact ⟨HB6.out.2.1.below h6, HB6.out.2.2.1.below h6, H.out.1.below hw, HB6.out.2.2.2.1.below h6, H.out.2.1.below hw, HB6.out.2.2.2.2.below h6, H.out.2.2.below hw, hw⟩
  clear hB7 KPF p0 p1 p2 HB6
  have hc00 : c0 = 0 := by rw [HC0.out.1, HCK.out]; rfl
  have he00 : e0 = -1 := by rw [HC0.out.2, HCK.out]; rfl
  subst hc00 he00
  go_upto_region 7 with fail
  obtain ⟨W8, hW8⟩ : ∃ W8, W8 = w7.alloc (fltG 0 (-1)) := ⟨_, rfl⟩
  have hB78 : Below w7.heap.size w7 W8 := by rw [hW8]; exact below1 w7 _
  have hF8 : W8.heap[w7.heap.size]? = some (fltG 0 (-1)) := by rw [hW8]; exact heap_new w7 _
  rw [← hW8]
  clear hW8
  obtain ⟨fb, hfb⟩ : ∃ b, b = w7.heap.size := ⟨_, rfl⟩
  rw [← hfb] at hF8 ⊢
  have HF8 : Hid (W8.heap[fb]? = some (fltG 0 (-1)) ∧ Below w7.heap.size w7 W8 ∧ w7.heap.size ≤ fb) := ⟨hF8, hB78, by omega⟩
  clear hfb hF8 hB78
  obtain ⟨-, ⟨y0, y1, y2⟩, -⟩ := K.out W8 HF8.out.2.1
  have KO : Hid (Calls Tryz.prog 13 #[.agg #[.slice b1 n1 d1, .slice b2 n2 d2, .slice b3 n3 d3]] W8 fun e w' => ∃ v ev, e = .returned (.tuple #[v, ev]) ∧ ((checkE P = none ∧ ev = .nilIface ∧ IsRules w' v (rulesD P)) ∨ ((checkE P).isNone = false ∧ v = .slice none 0 0 ∧ ErrV w' a (checkE P) ev)) ∧ Below W8.heap.size W8 w') := by
    obtain ⟨-, -, -, r1, -, -, r2, -⟩ := K.out W8 HF8.out.2.1
    exact of_any a P _ _ _ W8 HS.out.1 r1 r2.five
  go_wp2_with fail
  refine KO.out.mono ?_
  rintro e w9 ⟨rv, ev, rfl, hcs, hB9⟩
  have HF9 : Hid (w9.heap[fb]? = some (fltG 0 (-1)) ∧ Below w7.heap.size w7 w9) := ⟨block_keep hB9 HF8.out.1, bthen HF8.out.2.1 hB9⟩
  clear KO y0 y1 y2
  have hev : ev = .nilIface ∧ IsRules w9 rv (rulesD P) := by
    rcases hcs with ⟨-, q1, q2⟩ | ⟨q, -, -⟩
    · exact ⟨q1, q2⟩
    · rw [HCK.out] at q; cases q
  obtain ⟨rfl, hru⟩ := hev
  have hform : ∃ ra rc, rv = .slice ra n3 rc := by
    obtain ⟨ra, rc, q, -⟩ := hru
    rw [rulesD_len, ← HN.out.2.2.1] at q
    exact ⟨ra, rc, q⟩
  obtain ⟨ra, rc, rfl⟩ := hform
  have HRU : Hid (IsRules w9 (.slice ra n3 rc) (rulesD P)) := hru
  have hn3l : n3 ≤ 80 := by rw [HN.out.2.2.1]; exact (right_small HCK.out).1
  clear hcs hB9 hru
  obtain ⟨⟨f0, f1⟩, -⟩ := fltG_cells HF9.out.1
  have KF0 : Hid (Calls Tryz.prog 14 #[.nilIface, .agg #[.int .i64 0, .int .i64 (-1)]] w9 fun r w' => r = .returned (.bool true) ∧ Below w9.heap.size w9 w') := by
    obtain ⟨-, -, -, -, -, -, r3, -⟩ := K.out w9 HF9.out.2
    exact faulted_any a none _ _ _ w9 r3 (Or.inl ⟨rfl, rfl⟩) (fun x hx => by cases hx) rfl rfl
  go_wp2_with fail
  refine KF0.out.mono ?_
  rintro e w10 ⟨rfl, hB10⟩
  have HF10 : Hid (w10.heap[fb]? = some (fltG 0 (-1)) ∧ Below w7.heap.size w7 w10 ∧ IsRules w10 (.slice ra n3 rc) (rulesD P)) := ⟨block_keep hB10 HF9.out.1, bthen HF9.out.2 hB10, HRU.out.below hB10⟩
  clear hB10 KF0 f0 f1 HRU
  go_wp2_with fail
  go_loopw [11] (fun t11 wr => ∃ k : Nat, k ≤ n3 ∧ t11 = .int .i64 (k : Int) ∧ Below w10.heap.size w10 wr) (fun t11 _ => (n3 - intOf t11).toNat)
  case atStart => exact ⟨0, Nat.zero_le _, rfl, Below.refl _ _⟩
  case round =>
    obtain ⟨k, hk, rfl, hbr⟩ := hrel
    have HBR : Hid (w10.heap[fb]? = some (fltG 0 (-1)) ∧ Below w10.heap.size w10 wr) := ⟨HF10.out.1, hbr⟩
    have HFR : Hid (wr.heap[fb]? = some (fltG 0 (-1)) ∧ Below w7.heap.size w7 wr) := ⟨block_keep hbr HF10.out.1, bthen HF10.out.2.1 hbr⟩
    clear hbr
    obtain ⟨⟨p0, p1, p2⟩, -⟩ := K.out wr HFR.out.2
    obtain ⟨⟨f0, f1⟩, -⟩ := fltG_cells HFR.out.1
    by_cases hlt : k < n3
    · have hki : (k : Int) < n3 := by omega
      have hk3 : k < P.stmts.length := by rw [← HN.out.2.2.1]; exact hlt
      obtain ⟨r, hr⟩ : ∃ r, r = ruleD P k := ⟨_, rfl⟩
      obtain ⟨ra', rc', hrv, hrow⟩ := HF10.out.2.2.below HBR.out.2
      obtain ⟨gb, hgb, av, r0, r1, r2, r3, r4, r5, -⟩ := hrow k (by rw [rulesD_len]; exact hk3)
      injection hrv with hq1 hq2 hq3
      clear hq2 hq3
      obtain rfl : ra = some ⟨gb, 0, none⟩ := by rw [hq1, hgb]
      rw [rulesD_at P k hk3, ← hr] at r0 r1 r2 r3 r5
      obtain ⟨la, lc, rfl⟩ := isInts_form r5
      have hst : r.stmt = (k : Int) := by rw [hr]; unfold ruleD; split <;> (try split) <;> (try split) <;> rfl
      have hal : r.args.length ≤ 1000000 := by rw [hr]; exact ruleD_args k hk3 HS.out.1
      rw [hst] at r3
      obtain ⟨kd, hkd⟩ : ∃ kd, kd = S r.kind := ⟨_, rfl⟩
      obtain ⟨xa, hxa⟩ : ∃ z, z = r.a := ⟨_, rfl⟩
      obtain ⟨xb, hxb⟩ : ∃ z, z = r.b := ⟨_, rfl⟩
      obtain ⟨na, hna⟩ : ∃ z, z = r.args.length := ⟨_, rfl⟩
      rw [← hkd] at r0
      rw [← hxa] at r1
      rw [← hxb] at r2
      rw [← hna] at r4
      have HLA : Hid (IsInts wr (.slice la na lc) r.args ∧ r.args.length ≤ 1000000) := ⟨by rw [hna]; exact r5, hal⟩
      have KR : Hid (Calls Tryz.prog 15 #[.agg #[.slice a1 n1 c1, .slice a2 n2 c2, .slice a3 n3 c3], .int .i64 (k : Int)] wr fun e w' => ∃ aa ac, e = .returned (.agg #[.string kd, .int .i64 xa, .int .i64 xb, .int .i64 (k : Int), .slice aa na ac]) ∧ IsInts wr (.slice aa na ac) r.args ∧ Below wr.heap.size wr w') := by
        obtain ⟨-, -, q1, -⟩ := K.out wr HFR.out.2
        refine (refRule_any P k _ _ _ wr wr HS.out.1 HCK.out q1 (Below.refl _ _) hk3).mono ?_
        rintro e w' ⟨av, rfl, hi, hb⟩
        rw [← hr] at hi ⊢
        obtain ⟨aa, ac, rfl⟩ := isInts_form hi
        rw [hkd, hxa, hxb, hna, ← hst]
        exact ⟨aa, ac, rfl, hi, hb⟩
      clear hrow hq1 hgb hr r5 hst hal hkd hxa hxb hna hk3
      go_wp2_with fail
      refine KR.out.mono ?_
      rintro e w11 ⟨aa, ac, rfl, hai, hb11⟩
      go_upto_region 14 with fail
      obtain ⟨W12, hW12⟩ : ∃ W, W = w11.alloc (.cells #[.string kd, .int .i64 xa, .int .i64 xb, .int .i64 (k : Int), .slice aa na ac] TRf) := ⟨_, rfl⟩
      have hb12 : Below wr.heap.size wr W12 := by rw [hW12]; exact bthen hb11 (below1 w11 _)
      have hG12 : W12.heap[w11.heap.size]? = some (.cells #[.string kd, .int .i64 xa, .int .i64 xb, .int .i64 (k : Int), .slice aa na ac] TRf (0, 0)) := by rw [hW12]; exact heap_new w11 _
      rw [← hW12]
      clear hW12
      obtain ⟨g5, hg5⟩ : ∃ g, g = w11.heap.size := ⟨_, rfl⟩
      rw [← hg5] at hG12 ⊢
      obtain ⟨⟨t0, t1, t2, t3, t4⟩, -⟩ := ruleCells hG12
      replace r0 := cell_keep hb12 r0
      replace r1 := cell_keep hb12 r1
      replace r2 := cell_keep hb12 r2
      replace r3 := cell_keep hb12 r3
      replace r4 := cell_keep hb12 r4
      replace p0 := cell_keep hb12 p0
      replace p1 := cell_keep hb12 p1
      replace p2 := cell_keep hb12 p2
      have KS : Hid (∀ m, Calls Tryz.prog 16 #[.slice la na lc, .slice aa na ac] (W12.drewN m) fun e w'' => e = .returned (.bool true) ∧ ∃ m', w'' = W12.drewN m') := fun m => sameQ_drew r.args _ _ W12 HLA.out.2 (HLA.out.1.below hb12) (hai.below hb12) m
      have HB12 : Hid (Below w10.heap.size w10 W12) := bthen HBR.out.2 hb12
      clear hg5 hG12 hai hb11 hb12 KR f0 f1
      go_wp2_with fail
      go_quiet ((go_at_call 16; exact KS.out _))
      go_wp2_with fail
      go_roundw
      case rel => exact ⟨k + 1, hlt, by go_num, below_drewN HB12.out _⟩
      case measure => simp [intOf]; omega
    · have hkn : k = n3 := by omega
      subst hkn
      clear HBR
      obtain ⟨E, hE⟩ : ∃ E, E = consE P hs := ⟨_, rfl⟩
      have hcase : E = none ∨ E.isNone = false := by cases E; exact Or.inl rfl; exact Or.inr rfl
      obtain ⟨cc, hcc⟩ : ∃ z, z = codeE E := ⟨_, rfl⟩
      obtain ⟨ee, hee⟩ : ∃ z, z = placeE E := ⟨_, rfl⟩
      have KSF : Hid (Calls Tryz.prog 17 #[.agg #[.slice a1 n1 c1, .slice a2 n2 c2, .slice a3 k c3], .slice ha n hc] wr fun e w' => e = .returned (.agg #[.int .i64 cc, .int .i64 ee]) ∧ Below wr.heap.size wr w') := by
        obtain ⟨-, -, q1, -, q2, -⟩ := K.out wr HFR.out.2
        have := refSetsFault_any P _ _ _ _ hs wr HS.out.1 HCK.out q1 q2 (by rw [← HN.out.2.2.2]; have := HL.out.1; omega) (fun j hj => by have := HL.out.2 j (by rw [HN.out.2.2.2]; exact hj); omega)
        rw [← hE, codeF_E, placeF_E, ← hcc, ← hee] at this
        exact this
      have HE : Hid (E = consE P hs ∧ cc = codeE E ∧ ee = placeE E) := ⟨hE, hcc, hee⟩
      clear hE hcc hee hlt
      go_wp2_with fail
      refine KSF.out.mono ?_
      rintro e w14 ⟨rfl, hb14⟩
      have hF14 := block_keep hb14 HFR.out.1
      obtain ⟨⟨f0', f1'⟩, ff0, ff1⟩ := fltG_cells hF14
      clear f0 f1
      go_upto_region 20 with fail
      obtain ⟨W15, hW15⟩ : ∃ W, W = (w14.setCell ⟨fb, 0, none⟩ (.int .i64 cc)).setCell ⟨fb, 1, none⟩ (.int .i64 ee) := ⟨_, rfl⟩
      have HF15 : Hid (W15.heap[fb]? = some (fltG cc ee) ∧ Below w7.heap.size w7 W15) := by
        rw [hW15]
        exact ⟨fltG_set hF14 _ _, ((bthen HFR.out.2 hb14).setCell HF8.out.2.2 _).setCell HF8.out.2.2 _⟩
      rw [← hW15]
      clear hW15 hF14 f0' f1' ff0 ff1 hb14 KSF p0 p1 p2
      rcases hcase with hEn | hEb
      · have hcc0 : cc = 0 := by rw [HE.out.2.1, hEn]; rfl
        subst hcc0
        have HOK : Hid (consE P hs = none ∧ SetsOk P hs) := by
          have : consE P hs = none := by rw [← HE.out.1]; exact hEn
          exact ⟨this, (consE_ok this).2⟩
        clear hEn
        obtain ⟨-, ⟨y0, y1, y2⟩, -⟩ := K.out W15 HF15.out.2
        have KE : Hid (Calls Tryz.prog 18 #[.agg #[.slice b1 n1 d1, .slice b2 n2 d2, .slice b3 k d3], .slice ua n uc] W15 fun e w' => ∃ ea ec, e = .returned (.tuple #[.slice ea (refEdges P hs hs.length).length ec, .nilIface]) ∧ IsPairs w' (.slice ea (refEdges P hs hs.length).length ec) (refEdges P hs hs.length) ∧ Below W15.heap.size W15 w') := by
          obtain ⟨-, -, -, r1, -, r2, r3, -⟩ := K.out W15 HF15.out.2
          refine (edges_any a P _ _ _ _ hs W15 HS.out.1 r1 r2 r3.five r3.three (by rw [← HN.out.2.2.2]; have := HL.out.1; omega) (fun j hj => by have := HL.out.2 j (by rw [HN.out.2.2.2]; exact hj); omega)).mono ?_
          rintro e w' ⟨v, ev, rfl, hcs, hb⟩
          rcases hcs with ⟨-, rfl, es, hp, hes⟩ | ⟨q, -, -⟩
          · rw [refEdges_set HCK.out HOK.out.2 hes]
            obtain ⟨ea, ec, rfl, hq⟩ := hp
            exact ⟨ea, ec, rfl, ⟨ea, ec, rfl, hq⟩, hb⟩
          · rw [HOK.out.1] at q; cases q
        obtain ⟨m, hm⟩ : ∃ m, m = (refEdges P hs hs.length).length := ⟨_, rfl⟩
        have HM : Hid (m = (refEdges P hs hs.length).length) := hm
        have hml : m ≤ 1000000 := by
          have h1 := refEdges_len P hs hs.length
          have h50 := HL.out.1
          have h2 : hs.length * hs.length ≤ 50 * 50 := Nat.mul_le_mul (by rw [← HN.out.2.2.2]; exact h50) (by rw [← HN.out.2.2.2]; exact h50)
          omega
        rw [← hm] at KE
        clear hm
        go_wp2_with fail
        refine KE.out.mono ?_
        rintro e w20 ⟨ea, ec, rfl, hp20, hb20⟩
        have HV1 : Hid (IsPairs w20 (.slice ea m ec) (refEdges P hs hs.length) ∧ Below w7.heap.size w7 w20 ∧ w20.heap[fb]? = some (fltG 0 ee)) := ⟨hp20, bthen HF15.out.2 hb20, block_keep hb20 HF15.out.1⟩
        clear hp20 hb20 KE y0 y1 y2
        obtain ⟨-, ⟨y0, y1, y2⟩, -⟩ := K.out w20 HV1.out.2.1
        obtain ⟨D, hD⟩ : ∃ D, D = closedB P hs := ⟨_, rfl⟩
        have KC : Hid (Calls Tryz.prog 19 #[.agg #[.slice b1 n1 d1, .slice b2 n2 d2, .slice b3 k d3], .slice ua n uc] w20 fun e w' => e = .returned (.tuple #[.bool D, .nilIface]) ∧ Below w20.heap.size w20 w') := by
          obtain ⟨-, -, -, r1, -, r2, r3, -⟩ := K.out w20 HV1.out.2.1
          refine (closed_any a P _ _ _ _ hs w20 HS.out.1 r1 r2 r3.five r3.three (by rw [← HN.out.2.2.2]; have := HL.out.1; omega) (fun j hj => by have := HL.out.2 j (by rw [HN.out.2.2.2]; exact hj); omega)).mono ?_
          rintro e w' ⟨b, ev, rfl, hcs, hb⟩
          rcases hcs with ⟨-, rfl, rfl⟩ | ⟨q, -, -⟩
          · rw [hD]; exact ⟨rfl, hb⟩
          · rw [HOK.out.1] at q; cases q
        have HD : Hid (D = closedB P hs) := hD
        clear hD
        go_wp2_with fail
        refine KC.out.mono ?_
        rintro e w21 ⟨rfl, hb21⟩
        have HV2 : Hid (IsPairs w21 (.slice ea m ec) (refEdges P hs hs.length) ∧ Below w7.heap.size w7 w21 ∧ w21.heap[fb]? = some (fltG 0 ee)) := ⟨HV1.out.1.below hb21, bthen HV1.out.2.1 hb21, block_keep hb21 HV1.out.2.2⟩
        clear hb21 KC y0 y1 y2
        obtain ⟨⟨p0, p1, p2⟩, -⟩ := K.out w21 HV2.out.2.1
        obtain ⟨⟨f0, f1⟩, -⟩ := fltG_cells HV2.out.2.2
        have KR : Hid (Calls Tryz.prog 20 #[.agg #[.slice a1 n1 c1, .slice a2 n2 c2, .slice a3 k c3], .slice ha n hc] w21 fun e w' => ∃ xa xc, e = .returned (.slice xa m xc) ∧ IsPairs w' (.slice xa m xc) (refEdges P hs hs.length) ∧ Below w21.heap.size w21 w') := by
          obtain ⟨-, -, r1, -, r2, -⟩ := K.out w21 HV2.out.2.1
          refine (refEdgesOf_any P _ _ _ _ hs w21 HS.out.1 HCK.out r1 r2 HOK.out.2).mono ?_
          rintro e w' ⟨v, rfl, hp, hb⟩
          obtain ⟨xa, xc, rfl, hq⟩ := hp.isPairs
          rw [HM.out]
          exact ⟨xa, xc, rfl, ⟨xa, xc, rfl, hq⟩, hb⟩
        go_wp2_with fail
        refine KR.out.mono ?_
        rintro e w22 ⟨xa, xc, rfl, hp22, hb22⟩
        have HV3 : Hid (IsPairs w22 (.slice ea m ec) (refEdges P hs hs.length) ∧ IsPairs w22 (.slice xa m xc) (refEdges P hs hs.length) ∧ Below w7.heap.size w7 w22) := ⟨HV2.out.1.below hb22, hp22, bthen HV2.out.2.1 hb22⟩
        clear hb22 hp22 KR f0 f1
        obtain ⟨⟨p0, p1, p2⟩, -⟩ := K.out w22 HV3.out.2.2
        have KI : Hid (Calls Tryz.prog 21 #[.agg #[.slice a1 n1 c1, .slice a2 n2 c2, .slice a3 k c3], .slice ha n hc] w22 fun e w' => e = .returned (.bool D) ∧ Below w22.heap.size w22 w') := by
          obtain ⟨-, -, r1, -, r2, -⟩ := K.out w22 HV3.out.2.2
          rw [HD.out]
          exact refIsClosed_any P _ _ _ _ hs w22 HS.out.1 HCK.out r1 r2 HOK.out.2
        go_wp2_with fail
        refine KI.out.mono ?_
        rintro e w23 ⟨rfl, hb23⟩
        have HV4 : Hid (IsPairs w23 (.slice ea m ec) (refEdges P hs hs.length) ∧ IsPairs w23 (.slice xa m xc) (refEdges P hs hs.length) ∧ Below w.heap.size w w23) := ⟨HV3.out.1.below hb23, HV3.out.2.1.below hb23, (K.out w23 (bthen HV3.out.2.2 hb23)).2.2.2.2.2.2.2⟩
        have gD : (D != D) = false := by simp
        clear hb23 KI p0 p1 p2
        go_wp2_with fail
        go_loopw [18] (fun t18 wq => ∃ i : Nat, i ≤ m ∧ t18 = .int .i64 (i : Int) ∧ Below w23.heap.size w23 wq) (fun t18 _ => (m - intOf t18).toNat)
        case atStart => exact ⟨0, Nat.zero_le _, rfl, Below.refl _ _⟩
        case round =>
          obtain ⟨wq, rfl⟩ : ∃ z, z = wr := ⟨_, rfl⟩
          obtain ⟨i, hi, rfl, hbq⟩ := hrel
          have HBQ : Hid (Below w23.heap.size w23 wq) := hbq
          clear hbq
          by_cases hli : i < m
          · have hii : (i : Int) < m := by omega
            have hil : i < (refEdges P hs hs.length).length := by rw [← HM.out]; exact hli
            obtain ⟨a', c', e', q⟩ := HV4.out.1.below HBQ.out
            obtain ⟨g, hg, d0, d1⟩ := q i hil
            injection e' with e1 e3 e4
            clear e3 e4
            obtain rfl : ea = some ⟨g, 0, none⟩ := by rw [e1, hg]
            obtain ⟨a'', c'', e'', q'⟩ := HV4.out.2.1.below HBQ.out
            obtain ⟨g', hg', d0', d1'⟩ := q' i hil
            injection e'' with e2 e3 e4
            clear e3 e4
            obtain rfl : xa = some ⟨g', 0, none⟩ := by rw [e2, hg']
            obtain ⟨x, hx⟩ : ∃ x, x = ((refEdges P hs hs.length).getD i default).1 := ⟨_, rfl⟩
            obtain ⟨y, hy⟩ : ∃ y, y = ((refEdges P hs hs.length).getD i default).2 := ⟨_, rfl⟩
            rw [← hx] at d0 d0'
            rw [← hy] at d1 d1'
            clear hx hy q q' e1 e2 hg hg' hil
            go_wp2_with fail
            go_quiet (fail)
            go_wp2_with fail
            go_roundw
            case rel => exact ⟨i + 1, hli, by go_num, below_drewN HBQ.out _⟩
            case measure => simp [intOf]; omega
          · have hin : i = m := by omega
            subst hin
            have HBF : Hid (Below w.heap.size w wq) := bthen HV4.out.2.2 HBQ.out
            go_wp2_with fail
            go_ret
            exact ⟨rfl, HBF.out⟩
      · have gpos : 0 < cc := by rw [HE.out.2.1]; exact codeG_pos hEb
        have HE1 : Hid ((consE P hs).isNone = false ∧ cc = codeE (consE P hs) ∧ ee = placeE (consE P hs)) := by
          show _ ∧ _
          rw [← HE.out.1]; exact ⟨hEb, HE.out.2⟩
        clear hEb
        obtain ⟨-, ⟨y0, y1, y2⟩, -⟩ := K.out W15 HF15.out.2
        have KE : Hid (Calls Tryz.prog 18 #[.agg #[.slice b1 n1 d1, .slice b2 n2 d2, .slice b3 k d3], .slice ua n uc] W15 fun e w' => ∃ ev, e = .returned (.tuple #[.slice none 0 0, ev]) ∧ ErrV w' a (consE P hs) ev ∧ Below (W15).heap.size W15 w') := by
          obtain ⟨-, -, -, r1, -, r2, r3, -⟩ := K.out W15 HF15.out.2
          refine (edges_any a P _ _ _ _ hs W15 HS.out.1 r1 r2 r3.five r3.three (by rw [← HN.out.2.2.2]; have := HL.out.1; omega) (fun j hj => by have := HL.out.2 j (by rw [HN.out.2.2.2]; exact hj); omega)).mono ?_
          rintro e w' ⟨v, ev, rfl, hcs, hb⟩
          rcases hcs with ⟨q, -, -⟩ | ⟨-, rfl, hev⟩
          · have := HE1.out.1; rw [q] at this; cases this
          · exact ⟨ev, rfl, hev, hb⟩
        go_wp2_with fail
        refine KE.out.mono ?_
        rintro e w20 ⟨ev1, rfl, hev1, hb20⟩
        have HV1 : Hid (ErrV w20 a (consE P hs) ev1 ∧ Below w7.heap.size w7 w20 ∧ w20.heap[fb]? = some (fltG cc ee)) := ⟨hev1, bthen HF15.out.2 hb20, block_keep hb20 HF15.out.1⟩
        have hform : ∃ t x, ev1 = .iface t (.pointer (some x)) := by
          rcases hev1.cases with ⟨q, _⟩ | ⟨_, q⟩
          · have := HE1.out.1; rw [q] at this; cases this
          · exact q
        obtain ⟨t1, x1, rfl⟩ := hform
        clear hev1 hb20 KE y0 y1 y2
        obtain ⟨-, ⟨y0, y1, y2⟩, -⟩ := K.out w20 HV1.out.2.1
        have KC : Hid (Calls Tryz.prog 19 #[.agg #[.slice b1 n1 d1, .slice b2 n2 d2, .slice b3 k d3], .slice ua n uc] w20 fun e w' => ∃ ev, e = .returned (.tuple #[.bool false, ev]) ∧ ErrV w' a (consE P hs) ev ∧ Below w20.heap.size w20 w') := by
          obtain ⟨-, -, -, r1, -, r2, r3, -⟩ := K.out w20 HV1.out.2.1
          refine (closed_any a P _ _ _ _ hs w20 HS.out.1 r1 r2 r3.five r3.three (by rw [← HN.out.2.2.2]; have := HL.out.1; omega) (fun j hj => by have := HL.out.2 j (by rw [HN.out.2.2.2]; exact hj); omega)).mono ?_
          rintro e w' ⟨b, ev, rfl, hcs, hb⟩
          rcases hcs with ⟨q, -, -⟩ | ⟨-, rfl, hev⟩
          · have := HE1.out.1; rw [q] at this; cases this
          · exact ⟨ev, rfl, hev, hb⟩
        go_wp2_with fail
        refine KC.out.mono ?_
        rintro e w21 ⟨ev2, rfl, hev2, hb21⟩
        have HV2 : Hid (ErrV w21 a (consE P hs) ev2 ∧ ErrV w21 a (consE P hs) (.iface t1 (.pointer (some x1))) ∧ Below w7.heap.size w7 w21 ∧ w21.heap[fb]? = some (fltG cc ee)) := ⟨hev2, HV1.out.1.below hb21, bthen HV1.out.2.1 hb21, block_keep hb21 HV1.out.2.2⟩
        have hform : ∃ t x, ev2 = .iface t (.pointer (some x)) := by
          rcases hev2.cases with ⟨q, _⟩ | ⟨_, q⟩
          · have := HE1.out.1; rw [q] at this; cases this
          · exact q
        obtain ⟨t2, x2, rfl⟩ := hform
        clear hev2 hb21 KC y0 y1 y2
        obtain ⟨⟨f0, f1⟩, -⟩ := fltG_cells HV2.out.2.2.2
        have KF : Hid (∀ v wx, Below w21.heap.size w21 wx → ErrV w21 a (consE P hs) v → Calls Tryz.prog 14 #[v, .agg #[.int .i64 cc, .int .i64 ee]] wx fun r w' => r = .returned (.bool true) ∧ Below wx.heap.size wx w') := fun v wx hx hv => by
          obtain ⟨-, -, -, -, -, -, r3, -⟩ := K.out wx (bthen HV2.out.2.2.1 hx)
          exact faulted_any a (consE P hs) v _ _ wx r3 (hv.below hx) (fun x hx => consE_lt hx) HE1.out.2.1 HE1.out.2.2
        go_wp2_with fail
        refine (KF.out _ w21 (Below.refl _ _) HV2.out.2.1).mono ?_
        rintro e w22 ⟨rfl, hb22⟩
        replace f0 := cell_keep hb22 f0
        replace f1 := cell_keep hb22 f1
        go_wp2_with fail
        refine (KF.out _ w22 hb22 HV2.out.1).mono ?_
        rintro e w23 ⟨rfl, hb23⟩
        have HBF : Hid (Below w.heap.size w w23) := (K.out w23 (bthen (bthen HV2.out.2.2.1 hb22) hb23)).2.2.2.2.2.2.2
        go_wp2_with fail
        go_ret
        exact ⟨rfl, HBF.out⟩
end Go.Proofs.YtfajpkdpnpdfkaaGreatDoor

/-
  ConsTells answers true at every program and sets that read as plain data.
-/
namespace Go.Proofs.YtfajpkdpnpdfkaaGreatDoor
open Go.RowKit Go.Extern.Stop Go.Stop Go.Extern

theorem consTells_any (a : Nat → Addr) (P : ProgD) (v1 v2 v3 hv : Value) (hs : List (List Int)) (w : World) (h : IsProg w v1 v2 v3 P) (hH : IsSets w hv hs) (hE : Errs w a) :
    Calls Tryz.prog 3 #[.agg #[v1, v2, v3], hv] w fun e w' => e = .returned (.bool true) ∧ Below w.heap.size w w' := by
  cases hc : checkE P with
  | none => exact consTells_ok a P v1 v2 v3 hv hs w h hH hE hc
  | some x => exact consTells_bad a P v1 v2 v3 hv hs w h hH hE (by rw [hc]; rfl)
end Go.Proofs.YtfajpkdpnpdfkaaGreatDoor

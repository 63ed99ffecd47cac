/-
  FixLeast where the program is not right.
-/
import Derived.Test.YtfajpkdpnpdfkaaGreatDoorZGM
import Derived.Test.YtfajpkdpnpdfkaaGreatDoorGHM
import Derived.Test.YtfajpkdpnpdfkaaGreatDoorQE2M
import Derived.Test.YtfajpkdpnpdfkaaGreatDoorZFM
import Derived.Test.YtfajpkdpnpdfkaaGreatDoorCMM
import Derived.Deep.RegionHeld3
namespace Go.Proofs.YtfajpkdpnpdfkaaGreatDoor
open Go.RowKit Go.Extern.Stop Go.Stop Go.Extern

set_option maxRecDepth 100000 in
set_option maxHeartbeats 32000000 in
theorem fixLeast_bad (a : Nat → Addr) (P : ProgD) (v1 v2 v3 hv : Value) (hs : List (List Int)) (w : World) (h : IsProg w v1 v2 v3 P) (hH : IsSets w hv hs) (hE : Errs w a) (hck : (checkE P).isNone = false) :
    Calls Tryz.prog 4 #[.agg #[v1, v2, v3], hv] w fun e w' => e = .returned (.bool true) ∧ Below w.heap.size w w' := by
  have H : Hid (IsProg w v1 v2 v3 P ∧ IsSets w hv hs ∧ Errs w a) := ⟨h, hH, hE⟩
  obtain ⟨⟨a1, c1, rfl, -, -⟩, ⟨a2, c2, rfl, -, -⟩, ⟨a3, c3, rfl, -, -⟩⟩ := h
  obtain ⟨ha, hc, rfl, -⟩ := hH
  obtain ⟨n1, hn1⟩ : ∃ m, m = P.vars.length := ⟨_, rfl⟩
  obtain ⟨n2, hn2⟩ : ∃ m, m = P.funs.length := ⟨_, rfl⟩
  obtain ⟨n3, hn3⟩ : ∃ m, m = P.stmts.length := ⟨_, rfl⟩
  obtain ⟨n, hnn⟩ : ∃ m, m = hs.length := ⟨_, rfl⟩
  have HN : Hid (n1 = P.vars.length ∧ n2 = P.funs.length ∧ n3 = P.stmts.length ∧ n = hs.length) := ⟨hn1, hn2, hn3, hnn⟩
  have HCK : Hid ((checkE P).isNone = false) := hck
  rw [← hn1, ← hn2, ← hn3] at H ⊢
  rw [← hnn] at H ⊢
  clear hn1 hn2 hn3 hnn hE hck
  obtain ⟨W, hW⟩ : ∃ W, W = w.alloc (.cells #[.slice a1 n1 c1, .slice a2 n2 c2, .slice a3 n3 c3] 26) := ⟨_, rfl⟩
  have hBW : Below w.heap.size w W := by rw [hW]; exact below1 w _
  have HBX : Hid (Box3 W w.heap.size (.slice a1 n1 c1) (.slice a2 n2 c2) (.slice a3 n3 c3)) := by
    show Box3 W _ _ _ _
    rw [hW]; exact box3_new w _ _ _ _
  have K1 : Hid (Calls Tryz.prog 22 #[] W fun e w' => e = .returned (.bool true) ∧ Below W.heap.size W w') := fixed_any a W (H.out.2.2.five.below hBW) (H.out.2.2.three.below hBW)
  rw [hW] at K1
  go_enter Tryz.func4, Tryz.ntmps4
  go_wp2_with fail
  refine K1.out.mono ?_
  rintro e w1 ⟨rfl, hB1⟩
  rw [← hW] at hB1
  clear K1 hW
  obtain ⟨p0, p1, p2⟩ := HBX.out.below hB1
  have hB1w : Below w.heap.size w w1 := hBW.trans (hB1.mono hBW.size)
  go_wp2_with fail
  refine (large_m 25 (by decide) P _ _ _ w1 (H.out.1.below hB1w)).mono ?_
  rintro e w2 ⟨r, rfl, hr, hB2⟩
  have hB2w : Below w.heap.size w w2 := hB1w.trans (hB2.mono hB1w.size)
  rcases hr with rfl | ⟨rfl, hs1, hs2, -⟩
  · go_wp2_with fail
    go_ret
    exact ⟨rfl, hB2w⟩
  have HS : Hid (SmallP P ∧ SmallN P) := ⟨hs1, hs2⟩
  clear hs1 hs2
  replace p0 := cell_keep hB2 p0
  replace p1 := cell_keep hB2 p1
  replace p2 := cell_keep hB2 p2
  go_wp2_with fail
  refine (largeSets_any hs _ w2 (H.out.2.1.below hB2w)).mono ?_
  rintro e w3 ⟨r, rfl, hr, hB3⟩
  have hB3w : Below w.heap.size w w3 := hB2w.trans (hB3.mono hB2w.size)
  rcases hr with rfl | ⟨rfl, hl50, hl60⟩
  · go_wp2_with fail
    go_ret
    exact ⟨rfl, hB3w⟩
  rw [← HN.out.2.2.2] at hl50 hl60
  replace p0 := cell_keep hB3 p0
  replace p1 := cell_keep hB3 p1
  replace p2 := cell_keep hB3 p2
  have HL : Hid (n ≤ 50 ∧ ∀ j, j < n → (hs.getD j []).length ≤ 60) := ⟨hl50, hl60⟩
  have HBX3 : Hid (Box3 w3 w.heap.size (.slice a1 n1 c1) (.slice a2 n2 c2) (.slice a3 n3 c3)) := HBX.out.below (bthen hB1 (bthen hB2 hB3))
  clear hl50 hl60 hB1 hB2 hB3 hB1w hB2w
  go_wp2_with fail
  refine (ownProgram_any P _ _ _ w3 HS.out.1 (H.out.1.below hB3w)).mono ?_
  rintro e w4 ⟨u1, u2, u3, rfl, hq, hB4⟩
  have HQ : Hid (IsProg w4 u1 u2 u3 P) := hq
  obtain ⟨⟨b1, d1, rfl, -, -⟩, ⟨b2, d2, rfl, -, -⟩, ⟨b3, d3, rfl, -, -⟩⟩ := hq
  rw [← HN.out.1, ← HN.out.2.1, ← HN.out.2.2.1] at HQ ⊢
  have HB4 : Hid (Below w.heap.size w w4 ∧ Box3 w4 w.heap.size (.slice a1 n1 c1) (.slice a2 n2 c2) (.slice a3 n3 c3)) := ⟨bthen hB3w hB4, HBX3.out.below hB4⟩
  clear p0 p1 p2 hB4 hB3w HBX hBW HBX3
  go_upto_region 5 with fail
  obtain ⟨W5, hW5⟩ : ∃ W5, W5 = w4.alloc (.cells #[.slice b1 n1 d1, .slice b2 n2 d2, .slice b3 n3 d3] 26) := ⟨_, rfl⟩
  have hB45 : Below w4.heap.size w4 W5 := by rw [hW5]; exact below1 w4 _
  have hX5 : Box3 W5 w4.heap.size (.slice b1 n1 d1) (.slice b2 n2 d2) (.slice b3 n3 d3) := by rw [hW5]; exact box3_new w4 _ _ _ _
  rw [← hW5]
  clear hW5
  obtain ⟨qb, hqb⟩ : ∃ b, b = w4.heap.size := ⟨_, rfl⟩
  rw [← hqb] at hX5 ⊢
  have HB5 : Hid (Below w.heap.size w W5 ∧ Box3 W5 w.heap.size (.slice a1 n1 c1) (.slice a2 n2 c2) (.slice a3 n3 c3) ∧ Box3 W5 qb (.slice b1 n1 d1) (.slice b2 n2 d2) (.slice b3 n3 d3) ∧ IsProg W5 (.slice b1 n1 d1) (.slice b2 n2 d2) (.slice b3 n3 d3) P) := ⟨bthen HB4.out.1 hB45, HB4.out.2.below hB45, hX5, HQ.out.below hB45⟩
  clear hqb hX5 hB45 HQ HB4
  obtain ⟨w6, hw6⟩ : ∃ z, z = W5 := ⟨_, rfl⟩
  rw [← hw6] at HB5 ⊢
  have HB6 : Hid (Below w.heap.size w w6 ∧ Box3 w6 w.heap.size (.slice a1 n1 c1) (.slice a2 n2 c2) (.slice a3 n3 c3) ∧ Box3 w6 qb (.slice b1 n1 d1) (.slice b2 n2 d2) (.slice b3 n3 d3) ∧ IsProg w6 (.slice b1 n1 d1) (.slice b2 n2 d2) (.slice b3 n3 d3) P) := HB5.out
  clear hw6 HB5
  obtain ⟨p0, p1, p2⟩ := HB6.out.2.1
  obtain ⟨c0, hc0⟩ : ∃ c, c = codeE (checkE P) := ⟨_, rfl⟩
  obtain ⟨e0, he0⟩ : ∃ c, c = placeE (checkE P) := ⟨_, rfl⟩
  have HC0 : Hid (c0 = codeE (checkE P) ∧ e0 = placeE (checkE P)) := ⟨hc0, he0⟩
  have KPF : Hid (Calls Tryz.prog 12 #[.agg #[.slice a1 n1 c1, .slice a2 n2 c2, .slice a3 n3 c3]] w6 fun e w' => e = .returned (.agg #[.int .i64 c0, .int .i64 e0]) ∧ Below w6.heap.size w6 w') := by
    have := refFault_any P _ _ _ w6 HS.out.1 HS.out.2 (H.out.1.below HB6.out.1)
    rw [← hc0, ← he0] at this
    exact this
  clear hc0 he0
  go_wp2_with fail
  refine KPF.out.mono ?_
  rintro e w7 ⟨rfl, hB7⟩
  have K : Hid (∀ wx, Below w7.heap.size w7 wx → Box3 wx w.heap.size (.slice a1 n1 c1) (.slice a2 n2 c2) (.slice a3 n3 c3) ∧ Box3 wx qb (.slice b1 n1 d1) (.slice b2 n2 d2) (.slice b3 n3 d3) ∧ IsProg wx (.slice a1 n1 c1) (.slice a2 n2 c2) (.slice a3 n3 c3) P ∧ IsProg wx (.slice b1 n1 d1) (.slice b2 n2 d2) (.slice b3 n3 d3) P ∧ IsSets wx (.slice ha n hc) hs ∧ Errs wx a ∧ Below w.heap.size w wx) := fun wx hx => by
    have h6 : Below w6.heap.size w6 wx := bthen hB7 hx
    have hw : Below w.heap.size w wx := bthen HB6.out.1 h6
    exact ⟨HB6.out.2.1.below h6, HB6.out.2.2.1.below h6, H.out.1.below hw, HB6.out.2.2.2.below h6, H.out.2.1.below hw, H.out.2.2.below hw, hw⟩
  clear hB7 KPF p0 p1 p2 HB6
  have gpos : 0 < c0 := by rw [HC0.out.1]; exact codeG_pos HCK.out
  have HE1 : Hid ((consE P hs).isNone = false ∧ c0 = codeE (checkE P) ∧ e0 = placeE (checkE P) ∧ consE P hs = checkE P) := by
    show _ ∧ _
    rw [consG_bad HCK.out]; exact ⟨HCK.out, HC0.out.1, HC0.out.2, rfl⟩
  go_upto_region 6 with fail
  obtain ⟨W8, hW8⟩ : ∃ W8, W8 = w7.alloc (fltG c0 e0) := ⟨_, rfl⟩
  have hB78 : Below w7.heap.size w7 W8 := by rw [hW8]; exact below1 w7 _
  have hF8 : W8.heap[w7.heap.size]? = some (fltG c0 e0) := by rw [hW8]; exact heap_new w7 _
  rw [← hW8]
  clear hW8
  obtain ⟨fb, hfb⟩ : ∃ b, b = w7.heap.size := ⟨_, rfl⟩
  rw [← hfb] at hF8 ⊢
  have HF8 : Hid (W8.heap[fb]? = some (fltG c0 e0) ∧ Below w7.heap.size w7 W8 ∧ w7.heap.size ≤ fb) := ⟨hF8, hB78, by omega⟩
  clear hfb hF8 hB78
  obtain ⟨-, ⟨y0, y1, y2⟩, -⟩ := K.out W8 HF8.out.2.1
  have KO : Hid (Calls Tryz.prog 23 #[.agg #[.slice b1 n1 d1, .slice b2 n2 d2, .slice b3 n3 d3]] W8 fun e w' => LeastPost a P W8 w' e) := by
    obtain ⟨-, -, -, r1, -, r2, -⟩ := K.out W8 HF8.out.2.1
    exact least_any a P _ _ _ W8 HS.out.1 r1 r2.five r2.three
  have KRo : Hid (∀ wx ua un uc, Below w7.heap.size w7 wx → IsSets wx (.slice ua un uc) hs → Calls Tryz.prog 24 #[.agg #[.slice b1 n1 d1, .slice b2 n2 d2, .slice b3 n3 d3], .slice ua un uc] wx fun e w' => RoundPost a P hs wx w' e) := fun wx ua un uc hx hi => by
    obtain ⟨-, -, -, r1, -, r2, -⟩ := K.out wx hx
    exact round_any a P _ _ _ _ hs wx HS.out.1 r1 hi r2.five r2.three (by rw [← HN.out.2.2.2]; have := HL.out.1; omega) (fun j hj => by have := HL.out.2 j (by rw [HN.out.2.2.2]; exact hj); omega)
  have KOS : Hid (∀ wx, Below w7.heap.size w7 wx → Calls Tryz.prog 11 #[.slice ha n hc] wx fun e w' => ∃ ua uc, e = .returned (.slice ua n uc) ∧ IsSets w' (.slice ua n uc) hs ∧ Below wx.heap.size wx w') := fun wx hx => by
    obtain ⟨-, -, -, -, r1, -⟩ := K.out wx hx
    refine (ownSets_any hs _ wx r1 (by rw [← HN.out.2.2.2]; have := HL.out.1; omega) (fun j hj => by have := HL.out.2 j (by rw [HN.out.2.2.2]; exact hj); omega)).mono ?_
    rintro e w' ⟨ua, uc, vs, rfl, ho, hb⟩
    rw [HN.out.2.2.2]
    exact ⟨ua, uc, rfl, ho.isSets, hb⟩
  go_wp2_with fail
  refine KO.out.mono ?_
  rintro e w9 ⟨la, ln, lc, ev, lk, rfl, hcs, hB9⟩
  have HF9 : Hid (w9.heap[fb]? = some (fltG c0 e0) ∧ Below w7.heap.size w7 w9) := ⟨block_keep hB9 HF8.out.1, bthen HF8.out.2.1 hB9⟩
  clear KO y0 y1 y2
  have hev : Value.slice la ln lc = .slice none 0 0 ∧ lk = 0 ∧ ErrV w9 a (checkE P) ev := by
    rcases hcs with ⟨q, -, -⟩ | ⟨-, q1, q2, q3⟩
    · have := HCK.out; rw [q] at this; cases this
    · exact ⟨q1, q2, q3⟩
  obtain ⟨hnil, rfl, hev⟩ := hev
  injection hnil with q1 q2 q3
  subst q1 q2 q3
  have hform : ∃ t x, ev = .iface t (.pointer (some x)) := by
    rcases hev.cases with ⟨q, _⟩ | ⟨_, q⟩
    · have := HCK.out; rw [q] at this; cases this
    · exact q
  obtain ⟨t0, x0, rfl⟩ := hform
  have HV9 : Hid (ErrV w9 a (checkE P) (.iface t0 (.pointer (some x0)))) := hev
  clear hcs hB9 hev
  obtain ⟨⟨f0, f1⟩, -⟩ := fltG_cells HF9.out.1
  obtain ⟨-, ⟨y0, y1, y2⟩, -⟩ := K.out w9 HF9.out.2
  have HWD : Hid (Below w7.heap.size w7 (w9).drew ∧ (w9).drew.heap[fb]? = some (fltG c0 e0)) := ⟨HF9.out.2.drew, HF9.out.1⟩
  go_upto_region 8 with fail
  go_region_held3 (fun wx => Below w7.heap.size w7 wx ∧ wx.heap[fb]? = some (fltG c0 e0) ∧ wx.cell? ⟨qb, 0, none⟩ = some (.slice b1 n1 d1) ∧ wx.cell? ⟨qb, 1, none⟩ = some (.slice b2 n2 d2) ∧ wx.cell? ⟨qb, 2, none⟩ = some (.slice b3 n3 d3))
    ((go_split_ands; first | exact ⟨HWD.out.1, HWD.out.2, y0, y1, y2⟩ | exact ⟨bthen HWD.out.1 hb30, block_keep hb30 HWD.out.2, cell_keep hb30 y0, cell_keep hb30 y1, cell_keep hb30 y2⟩ | exact ⟨bthen (bthen HWD.out.1 hb30) hb31, block_keep hb31 (block_keep hb30 HWD.out.2), cell_keep hb31 (cell_keep hb30 y0), cell_keep hb31 (cell_keep hb30 y1), cell_keep hb31 (cell_keep hb30 y2)⟩))
    ((first | (go_at_call 11; refine (KOS.out _ ?_).mono ?_; (go_split_ands; assumption); rintro e w30 ⟨ua, uc, rfl, hos, hb30⟩) | (go_at_call 24; refine (KRo.out _ ua n uc ?_ hos).mono ?_; (go_split_ands; assumption); rintro e w31 ⟨ra, rn, rc, ev2, rfl, hcs2, hb31⟩)))
  have hrd : Value.slice ra rn rc = .slice none 0 0 ∧ ErrV w31 a (checkE P) ev2 := by
    rcases hcs2 with ⟨q, -, -⟩ | ⟨-, q1, q2⟩
    · have := HE1.out.1; rw [q] at this; cases this
    · rw [HE1.out.2.2.2] at q2; exact ⟨q1, q2⟩
  obtain ⟨hnil, hev2⟩ := hrd
  injection hnil with q1 q2 q3
  subst q1 q2 q3
  have hform : ∃ t x, ev2 = .iface t (.pointer (some x)) := by
    rcases hev2.cases with ⟨q, _⟩ | ⟨_, q⟩
    · have := HCK.out; rw [q] at this; cases this
    · exact q
  obtain ⟨t1, x1, rfl⟩ := hform
  have HX9 : Hid (Below w9.heap.size w9 w31) := (Below.refl _ _).drew.trans ((bthen hb30 hb31 : Below w9.drew.heap.size w9.drew w31))
  have HV2 : Hid (ErrV w31 a (checkE P) (.iface t1 (.pointer (some x1))) ∧ ErrV w31 a (checkE P) (.iface t0 (.pointer (some x0))) ∧ Below w7.heap.size w7 w31 ∧ w31.heap[fb]? = some (fltG c0 e0)) := ⟨hev2, HV9.out.below HX9.out, bthen HF9.out.2 HX9.out, block_keep HX9.out HF9.out.1⟩
  clear hcs2 hev2 hos hb30 hb31 y0 y1 y2 f0 f1
  obtain ⟨⟨f0, f1⟩, -⟩ := fltG_cells HV2.out.2.2.2
  have KF : Hid (∀ v wx, Below w31.heap.size w31 wx → ErrV w31 a (checkE P) v → Calls Tryz.prog 25 #[v, .agg #[.int .i64 c0, .int .i64 e0]] wx fun r w' => r = .returned (.bool true) ∧ Below wx.heap.size wx w') := fun v wx hx hv => by
    obtain ⟨-, -, -, -, -, r3, -⟩ := K.out wx (bthen HV2.out.2.2.1 hx)
    exact faulted2_any a (checkE P) v _ _ wx r3 (hv.below hx) (fun x hx => checkE_lt hx) HE1.out.2.1 HE1.out.2.2.1
  go_wp2_with fail
  refine (KF.out _ w31 (Below.refl _ _) HV2.out.2.1).mono ?_
  rintro e w22 ⟨rfl, hb22⟩
  replace f0 := cell_keep hb22 f0
  replace f1 := cell_keep hb22 f1
  go_wp2_with fail
  refine (KF.out _ w22 hb22 HV2.out.1).mono ?_
  rintro e w23 ⟨rfl, hb23⟩
  have HBF : Hid (Below w.heap.size w w23) := (K.out w23 (bthen (bthen HV2.out.2.2.1 hb22) hb23)).2.2.2.2.2.2
  go_wp2_with fail
  go_ret
  exact ⟨rfl, HBF.out⟩
end Go.Proofs.YtfajpkdpnpdfkaaGreatDoor

/-
  FixLeast where the program is right.
-/
namespace Go.Proofs.YtfajpkdpnpdfkaaGreatDoor
open Go.RowKit Go.Extern.Stop Go.Stop Go.Extern

/-- An error is kept where a box of two numbers is written. -/
theorem errV_flt {w : World} {a : Nat → Addr} {e : ErrD} {v : Value} {b : Nat} {c n : Int} (h : ErrV w a e v) (hF : w.heap[b]? = some (fltG c n)) (i : Nat) (x : Value) : ErrV (w.setCell ⟨b, i, none⟩ x) a e v := by
  rcases h with h | h | ⟨j, m, b', o, h1, h2, h3, h4, h5⟩
  · exact Or.inl h
  · exact Or.inr (Or.inl h)
  · have hne : b' ≠ b := fun q => by
      rw [q, Lib.cell_of_heap hF] at h5
      match o with
      | 0 => injection h5 with h5; cases h5
      | k + 1 => cases h5
    exact Or.inr (Or.inr ⟨j, m, b', o, h1, h2, h3, other_cell h4 hne, other_cell h5 hne⟩)
set_option maxRecDepth 100000 in
set_option maxHeartbeats 32000000 in
theorem fixLeast_ok (a : Nat → Addr) (P : ProgD) (v1 v2 v3 hv : Value) (hs : List (List Int)) (w : World) (h : IsProg w v1 v2 v3 P) (hH : IsSets w hv hs) (hE : Errs w a) (hck : checkE P = none) :
    Calls Tryz.prog 4 #[.agg #[v1, v2, v3], hv] w fun e w' => e = .returned (.bool true) ∧ Below w.heap.size w w' := by
  have H : Hid (IsProg w v1 v2 v3 P ∧ IsSets w hv hs ∧ Errs w a) := ⟨h, hH, hE⟩
  obtain ⟨⟨a1, c1, rfl, -, -⟩, ⟨a2, c2, rfl, -, -⟩, ⟨a3, c3, rfl, -, -⟩⟩ := h
  obtain ⟨ha, hc, rfl, -⟩ := hH
  obtain ⟨n1, hn1⟩ : ∃ m, m = P.vars.length := ⟨_, rfl⟩
  obtain ⟨n2, hn2⟩ : ∃ m, m = P.funs.length := ⟨_, rfl⟩
  obtain ⟨n3, hn3⟩ : ∃ m, m = P.stmts.length := ⟨_, rfl⟩
  obtain ⟨n, hnn⟩ : ∃ m, m = hs.length := ⟨_, rfl⟩
  have HN : Hid (n1 = P.vars.length ∧ n2 = P.funs.length ∧ n3 = P.stmts.length ∧ n = hs.length) := ⟨hn1, hn2, hn3, hnn⟩
  have HCK : Hid (checkE P = none) := hck
  rw [← hn1, ← hn2, ← hn3] at H ⊢
  rw [← hnn] at H ⊢
  clear hn1 hn2 hn3 hnn hE hck
  obtain ⟨W, hW⟩ : ∃ W, W = w.alloc (.cells #[.slice a1 n1 c1, .slice a2 n2 c2, .slice a3 n3 c3] 26) := ⟨_, rfl⟩
  have hBW : Below w.heap.size w W := by rw [hW]; exact below1 w _
  have HBX : Hid (Box3 W w.heap.size (.slice a1 n1 c1) (.slice a2 n2 c2) (.slice a3 n3 c3)) := by
    show Box3 W _ _ _ _
    rw [hW]; exact box3_new w _ _ _ _
  have K1 : Hid (Calls Tryz.prog 22 #[] W fun e w' => e = .returned (.bool true) ∧ Below W.heap.size W w') := fixed_any a W (H.out.2.2.five.below hBW) (H.out.2.2.three.below hBW)
  rw [hW] at K1
  go_enter Tryz.func4, Tryz.ntmps4
  go_wp2_with fail
  refine K1.out.mono ?_
  rintro e w1 ⟨rfl, hB1⟩
  rw [← hW] at hB1
  clear K1 hW
  obtain ⟨p0, p1, p2⟩ := HBX.out.below hB1
  have hB1w : Below w.heap.size w w1 := hBW.trans (hB1.mono hBW.size)
  go_wp2_with fail
  refine (large_m 25 (by decide) P _ _ _ w1 (H.out.1.below hB1w)).mono ?_
  rintro e w2 ⟨r, rfl, hr, hB2⟩
  have hB2w : Below w.heap.size w w2 := hB1w.trans (hB2.mono hB1w.size)
  rcases hr with rfl | ⟨rfl, hs1, hs2, -⟩
  · go_wp2_with fail
    go_ret
    exact ⟨rfl, hB2w⟩
  have HS : Hid (SmallP P ∧ SmallN P) := ⟨hs1, hs2⟩
  clear hs1 hs2
  replace p0 := cell_keep hB2 p0
  replace p1 := cell_keep hB2 p1
  replace p2 := cell_keep hB2 p2
  go_wp2_with fail
  refine (largeSets_any hs _ w2 (H.out.2.1.below hB2w)).mono ?_
  rintro e w3 ⟨r, rfl, hr, hB3⟩
  have hB3w : Below w.heap.size w w3 := hB2w.trans (hB3.mono hB2w.size)
  rcases hr with rfl | ⟨rfl, hl50, hl60⟩
  · go_wp2_with fail
    go_ret
    exact ⟨rfl, hB3w⟩
  rw [← HN.out.2.2.2] at hl50 hl60
  replace p0 := cell_keep hB3 p0
  replace p1 := cell_keep hB3 p1
  replace p2 := cell_keep hB3 p2
  have HL : Hid (n ≤ 50 ∧ ∀ j, j < n → (hs.getD j []).length ≤ 60) := ⟨hl50, hl60⟩
  have HBX3 : Hid (Box3 w3 w.heap.size (.slice a1 n1 c1) (.slice a2 n2 c2) (.slice a3 n3 c3)) := HBX.out.below (bthen hB1 (bthen hB2 hB3))
  clear hl50 hl60 hB1 hB2 hB3 hB1w hB2w
  go_wp2_with fail
  refine (ownProgram_any P _ _ _ w3 HS.out.1 (H.out.1.below hB3w)).mono ?_
  rintro e w4 ⟨u1, u2, u3, rfl, hq, hB4⟩
  have HQ : Hid (IsProg w4 u1 u2 u3 P) := hq
  obtain ⟨⟨b1, d1, rfl, -, -⟩, ⟨b2, d2, rfl, -, -⟩, ⟨b3, d3, rfl, -, -⟩⟩ := hq
  rw [← HN.out.1, ← HN.out.2.1, ← HN.out.2.2.1] at HQ ⊢
  have HB4 : Hid (Below w.heap.size w w4 ∧ Box3 w4 w.heap.size (.slice a1 n1 c1) (.slice a2 n2 c2) (.slice a3 n3 c3)) := ⟨bthen hB3w hB4, HBX3.out.below hB4⟩
  clear p0 p1 p2 hB4 hB3w HBX hBW HBX3
  go_upto_region 5 with fail
  obtain ⟨W5, hW5⟩ : ∃ W5, W5 = w4.alloc (.cells #[.slice b1 n1 d1, .slice b2 n2 d2, .slice b3 n3 d3] 26) := ⟨_, rfl⟩
  have hB45 : Below w4.heap.size w4 W5 := by rw [hW5]; exact below1 w4 _
  have hX5 : Box3 W5 w4.heap.size (.slice b1 n1 d1) (.slice b2 n2 d2) (.slice b3 n3 d3) := by rw [hW5]; exact box3_new w4 _ _ _ _
  rw [← hW5]
  clear hW5
  obtain ⟨qb, hqb⟩ : ∃ b, b = w4.heap.size := ⟨_, rfl⟩
  rw [← hqb] at hX5 ⊢
  have HB5 : Hid (Below w.heap.size w W5 ∧ Box3 W5 w.heap.size (.slice a1 n1 c1) (.slice a2 n2 c2) (.slice a3 n3 c3) ∧ Box3 W5 qb (.slice b1 n1 d1) (.slice b2 n2 d2) (.slice b3 n3 d3) ∧ IsProg W5 (.slice b1 n1 d1) (.slice b2 n2 d2) (.slice b3 n3 d3) P) := ⟨bthen HB4.out.1 hB45, HB4.out.2.below hB45, hX5, HQ.out.below hB45⟩
  clear hqb hX5 hB45 HQ HB4
  obtain ⟨w6, hw6⟩ : ∃ z, z = W5 := ⟨_, rfl⟩
  rw [← hw6] at HB5 ⊢
  have HB6 : Hid (Below w.heap.size w w6 ∧ Box3 w6 w.heap.size (.slice a1 n1 c1) (.slice a2 n2 c2) (.slice a3 n3 c3) ∧ Box3 w6 qb (.slice b1 n1 d1) (.slice b2 n2 d2) (.slice b3 n3 d3) ∧ IsProg w6 (.slice b1 n1 d1) (.slice b2 n2 d2) (.slice b3 n3 d3) P) := HB5.out
  clear hw6 HB5
  obtain ⟨p0, p1, p2⟩ := HB6.out.2.1
  obtain ⟨c0, hc0⟩ : ∃ c, c = codeE (checkE P) := ⟨_, rfl⟩
  obtain ⟨e0, he0⟩ : ∃ c, c = placeE (checkE P) := ⟨_, rfl⟩
  have HC0 : Hid (c0 = codeE (checkE P) ∧ e0 = placeE (checkE P)) := ⟨hc0, he0⟩
  have KPF : Hid (Calls Tryz.prog 12 #[.agg #[.slice a1 n1 c1, .slice a2 n2 c2, .slice a3 n3 c3]] w6 fun e w' => e = .returned (.agg #[.int .i64 c0, .int .i64 e0]) ∧ Below w6.heap.size w6 w') := by
    have := refFault_any P _ _ _ w6 HS.out.1 HS.out.2 (H.out.1.below HB6.out.1)
    rw [← hc0, ← he0] at this
    exact this
  clear hc0 he0
  go_wp2_with fail
  refine KPF.out.mono ?_
  rintro e w7 ⟨rfl, hB7⟩
  have K : Hid (∀ wx, Below w7.heap.size w7 wx → Box3 wx w.heap.size (.slice a1 n1 c1) (.slice a2 n2 c2) (.slice a3 n3 c3) ∧ Box3 wx qb (.slice b1 n1 d1) (.slice b2 n2 d2) (.slice b3 n3 d3) ∧ IsProg wx (.slice a1 n1 c1) (.slice a2 n2 c2) (.slice a3 n3 c3) P ∧ IsProg wx (.slice b1 n1 d1) (.slice b2 n2 d2) (.slice b3 n3 d3) P ∧ IsSets wx (.slice ha n hc) hs ∧ Errs wx a ∧ Below w.heap.size w wx) := fun wx hx => by
    have h6 : Below w6.heap.size w6 wx := bthen hB7 hx
    have hw : Below w.heap.size w wx := bthen HB6.out.1 h6
    exact ⟨HB6.out.2.1.below h6, HB6.out.2.2.1.below h6, H.out.1.below hw, HB6.out.2.2.2.below h6, H.out.2.1.below hw, H.out.2.2.below hw, hw⟩
  clear hB7 KPF p0 p1 p2 HB6
  have hc00 : c0 = 0 := by rw [HC0.out.1, HCK.out]; rfl
  have he00 : e0 = -1 := by rw [HC0.out.2, HCK.out]; rfl
  subst hc00 he00
  go_upto_region 6 with fail
  obtain ⟨W8, hW8⟩ : ∃ W8, W8 = w7.alloc (fltG 0 (-1)) := ⟨_, rfl⟩
  have hB78 : Below w7.heap.size w7 W8 := by rw [hW8]; exact below1 w7 _
  have hF8 : W8.heap[w7.heap.size]? = some (fltG 0 (-1)) := by rw [hW8]; exact heap_new w7 _
  rw [← hW8]
  clear hW8
  obtain ⟨fb, hfb⟩ : ∃ b, b = w7.heap.size := ⟨_, rfl⟩
  rw [← hfb] at hF8 ⊢
  have HF8 : Hid (W8.heap[fb]? = some (fltG 0 (-1)) ∧ Below w7.heap.size w7 W8 ∧ w7.heap.size ≤ fb) := ⟨hF8, hB78, by omega⟩
  clear hfb hF8 hB78
  obtain ⟨-, ⟨y0, y1, y2⟩, -⟩ := K.out W8 HF8.out.2.1
  have KO : Hid (Calls Tryz.prog 23 #[.agg #[.slice b1 n1 d1, .slice b2 n2 d2, .slice b3 n3 d3]] W8 fun e w' => LeastPost a P W8 w' e) := by
    obtain ⟨-, -, -, r1, -, r2, -⟩ := K.out W8 HF8.out.2.1
    exact least_any a P _ _ _ W8 HS.out.1 r1 r2.five r2.three
  have KRo : Hid (∀ wx ua un uc, Below w7.heap.size w7 wx → IsSets wx (.slice ua un uc) hs → Calls Tryz.prog 24 #[.agg #[.slice b1 n1 d1, .slice b2 n2 d2, .slice b3 n3 d3], .slice ua un uc] wx fun e w' => RoundPost a P hs wx w' e) := fun wx ua un uc hx hi => by
    obtain ⟨-, -, -, r1, -, r2, -⟩ := K.out wx hx
    exact round_any a P _ _ _ _ hs wx HS.out.1 r1 hi r2.five r2.three (by rw [← HN.out.2.2.2]; have := HL.out.1; omega) (fun j hj => by have := HL.out.2 j (by rw [HN.out.2.2.2]; exact hj); omega)
  have KOS : Hid (∀ wx, Below w7.heap.size w7 wx → Calls Tryz.prog 11 #[.slice ha n hc] wx fun e w' => ∃ ua uc, e = .returned (.slice ua n uc) ∧ IsSets w' (.slice ua n uc) hs ∧ Below wx.heap.size wx w') := fun wx hx => by
    obtain ⟨-, -, -, -, r1, -⟩ := K.out wx hx
    refine (ownSets_any hs _ wx r1 (by rw [← HN.out.2.2.2]; have := HL.out.1; omega) (fun j hj => by have := HL.out.2 j (by rw [HN.out.2.2.2]; exact hj); omega)).mono ?_
    rintro e w' ⟨ua, uc, vs, rfl, ho, hb⟩
    rw [HN.out.2.2.2]
    exact ⟨ua, uc, rfl, ho.isSets, hb⟩
  go_wp2_with fail
  refine KO.out.mono ?_
  rintro e w9 ⟨la, ln, lc, ev, lk, rfl, hcs, hB9⟩
  have HF9 : Hid (w9.heap[fb]? = some (fltG 0 (-1)) ∧ Below w7.heap.size w7 w9) := ⟨block_keep hB9 HF8.out.1, bthen HF8.out.2.1 hB9⟩
  clear KO y0 y1 y2
  have hev : ev = .nilIface ∧ ∃ m : Nat, lk = (m : Int) ∧ FixK P m ∧ IsSets w9 (.slice la ln lc) (iterD P m) := by
    rcases hcs with ⟨-, q1, q2⟩ | ⟨q, -, -⟩
    · exact ⟨q1, q2⟩
    · rw [HCK.out] at q; cases q
  obtain ⟨rfl, m, rfl, hfix, hil⟩ := hev
  have HM : Hid (FixK P m ∧ IsSets w9 (.slice la ln lc) (iterD P m)) := ⟨hfix, hil⟩
  clear hcs hB9 hfix hil
  obtain ⟨⟨p0, p1, p2⟩, -⟩ := K.out w9 HF9.out.2
  obtain ⟨⟨f0, f1⟩, -⟩ := fltG_cells HF9.out.1
  have KL : Hid (Calls Tryz.prog 26 #[.agg #[.slice a1 n1 c1, .slice a2 n2 c2, .slice a3 n3 c3]] w9 fun e w' => ∃ va vn vc, e = .returned (.tuple #[.slice va vn vc, .int .i64 (m : Int)]) ∧ IsSets w' (.slice va vn vc) (iterD P m) ∧ Below w9.heap.size w9 w') := by
    obtain ⟨-, -, r1, -⟩ := K.out w9 HF9.out.2
    refine (refLeast_any P _ _ _ w9 HS.out.1 HCK.out r1).mono ?_
    rintro e w' ⟨va, vn, vc, k, rfl, hk, hi, hb⟩
    obtain rfl := hk.uniq HM.out.1
    exact ⟨va, vn, vc, rfl, hi, hb⟩
  have hok : SetsOk P (iterD P m) := setsOk_iter HCK.out m
  have HSM : Hid ((iterD P m).length ≤ 1000000 ∧ ∀ j, j < (iterD P m).length → ((iterD P m).getD j []).length ≤ 1000000) := by
    obtain ⟨s1, s2, s3⟩ := right_small HCK.out
    have hpl := places_le P P.stmts.length
    have := hok.len
    exact ⟨by omega, fun j hj => by have := hok.short HCK.out j hj; omega⟩
  clear hok
  go_wp2_with fail
  refine KL.out.mono ?_
  rintro e w10 ⟨va, vn, vc, rfl, hi10, hb10⟩
  have HV : Hid (IsSets w10 (.slice la ln lc) (iterD P m) ∧ IsSets w10 (.slice va vn vc) (iterD P m) ∧ Below w7.heap.size w7 w10 ∧ w10.heap[fb]? = some (fltG 0 (-1))) := ⟨HM.out.2.below hb10, hi10, bthen HF9.out.2 hb10, block_keep hb10 HF9.out.1⟩
  clear hi10 hb10 KL p0 p1 p2 f0 f1
  have gm : ((m : Int) != (m : Int)) = false := by simp
  have KSS : Hid (Calls Tryz.prog 27 #[.slice la ln lc, .slice va vn vc] w10 fun e w' => e = .returned (.bool true) ∧ Below w10.heap.size w10 w') := sameSets_true _ _ _ w10 HV.out.1 HV.out.2.1 HSM.out.1 HSM.out.2
  go_wp2_with fail
  refine KSS.out.mono ?_
  rintro e w11 ⟨rfl, hb11⟩
  have HF11 : Hid (w11.heap[fb]? = some (fltG 0 (-1)) ∧ Below w7.heap.size w7 w11) := ⟨block_keep hb11 HV.out.2.2.2, bthen HV.out.2.2.1 hb11⟩
  clear hb11 KSS gm
  obtain ⟨-, ⟨y0, y1, y2⟩, -⟩ := K.out w11 HF11.out.2
  have HWD : Hid (Below w7.heap.size w7 (w11).drew ∧ (w11).drew.heap[fb]? = some (fltG 0 (-1))) := ⟨HF11.out.2.drew, HF11.out.1⟩
  go_upto_region 13 with fail
  go_region_held3 (fun wx => Below w7.heap.size w7 wx ∧ wx.heap[fb]? = some (fltG 0 (-1)) ∧ wx.cell? ⟨qb, 0, none⟩ = some (.slice b1 n1 d1) ∧ wx.cell? ⟨qb, 1, none⟩ = some (.slice b2 n2 d2) ∧ wx.cell? ⟨qb, 2, none⟩ = some (.slice b3 n3 d3))
    ((go_split_ands; first | exact ⟨HWD.out.1, HWD.out.2, y0, y1, y2⟩ | exact ⟨bthen HWD.out.1 hb30, block_keep hb30 HWD.out.2, cell_keep hb30 y0, cell_keep hb30 y1, cell_keep hb30 y2⟩ | exact ⟨bthen (bthen HWD.out.1 hb30) hb31, block_keep hb31 (block_keep hb30 HWD.out.2), cell_keep hb31 (cell_keep hb30 y0), cell_keep hb31 (cell_keep hb30 y1), cell_keep hb31 (cell_keep hb30 y2)⟩))
    ((first | (go_at_call 11; refine (KOS.out _ ?_).mono ?_; (go_split_ands; assumption); rintro e w30 ⟨ua, uc, rfl, hos, hb30⟩) | (go_at_call 24; refine (KRo.out _ ua n uc ?_ hos).mono ?_; (go_split_ands; assumption); rintro e w31 ⟨ra, rn, rc, ev2, rfl, hcs2, hb31⟩)))
  have HF31 : Hid (w31.heap[fb]? = some (fltG 0 (-1)) ∧ Below w7.heap.size w7 w31) := ⟨block_keep hb31 (block_keep hb30 HWD.out.2), bthen (bthen HWD.out.1 hb30) hb31⟩
  have HC2 : Hid ((consE P hs = none ∧ ev2 = .nilIface ∧ SetsFrom w30.heap.size w31 (.slice ra rn rc) (roundD P hs)) ∨ ((consE P hs).isNone = false ∧ Value.slice ra rn rc = .slice none 0 0 ∧ ErrV w31 a (consE P hs) ev2)) := hcs2
  have HLT : Hid (fb < w30.heap.size) := by
    have h1 : fb < w11.heap.size := (Array.getElem?_eq_some_iff.1 HF11.out.1).1
    have h2 := hb30.size
    have h3 : w11.drew.heap.size = w11.heap.size := rfl
    show fb < _
    omega
  clear hcs2 hos hb30 hb31 y0 y1 y2
  obtain ⟨E, hE⟩ : ∃ E, E = consE P hs := ⟨_, rfl⟩
  obtain ⟨cc, hcc⟩ : ∃ z, z = codeE E := ⟨_, rfl⟩
  obtain ⟨ee, hee⟩ : ∃ z, z = placeE E := ⟨_, rfl⟩
  have HE : Hid (E = consE P hs ∧ cc = codeE E ∧ ee = placeE E) := ⟨hE, hcc, hee⟩
  have KSF : Hid (Calls Tryz.prog 17 #[.agg #[.slice a1 n1 c1, .slice a2 n2 c2, .slice a3 n3 c3], .slice ha n hc] w31 fun e w' => e = .returned (.agg #[.int .i64 cc, .int .i64 ee]) ∧ Below w31.heap.size w31 w') := by
    obtain ⟨-, -, q1, -, q2, -⟩ := K.out w31 HF31.out.2
    have := refSetsFault_any P _ _ _ _ hs w31 HS.out.1 HCK.out q1 q2 (by rw [← HN.out.2.2.2]; have := HL.out.1; omega) (fun j hj => by have := HL.out.2 j (by rw [HN.out.2.2.2]; exact hj); omega)
    rw [← hE, codeF_E, placeF_E, ← hcc, ← hee] at this
    exact this
  obtain ⟨⟨p0, p1, p2⟩, -⟩ := K.out w31 HF31.out.2
  clear hE hcc hee
  go_wp2_with fail
  refine KSF.out.mono ?_
  rintro e w14 ⟨rfl, hb14⟩
  have hF14 := block_keep hb14 HF31.out.1
  obtain ⟨⟨f0', f1'⟩, ff0, ff1⟩ := fltG_cells hF14
  go_upto_region 15 with fail
  obtain ⟨W15, hW15⟩ : ∃ W, W = (w14.setCell ⟨fb, 0, none⟩ (.int .i64 cc)).setCell ⟨fb, 1, none⟩ (.int .i64 ee) := ⟨_, rfl⟩
  have HF15 : Hid (W15.heap[fb]? = some (fltG cc ee) ∧ Below w7.heap.size w7 W15) := by
    rw [hW15]
    exact ⟨fltG_set hF14 _ _, ((bthen HF31.out.2 hb14).setCell HF8.out.2.2 _).setCell HF8.out.2.2 _⟩
  have HKP : Hid ((∀ xs, SetsFrom w30.heap.size w31 (.slice ra rn rc) xs → IsSets W15 (.slice ra rn rc) xs) ∧ ∀ e v, ErrV w31 a e v → ErrV W15 a e v) := by
    rw [hW15]
    refine ⟨fun xs hx => ?_, fun e v hv => ?_⟩
    · exact (((hx.below hb14).set HLT.out _).set HLT.out _).isSets
    · have := hv.below hb14
      exact errV_flt (errV_flt this hF14 0 (.int .i64 cc)) (set_block _ _ 0 _ _ _ hF14 (.int .i64 cc)) 1 _
  rw [← hW15]
  clear hW15 hF14 f0' f1' ff0 ff1 hb14 KSF p0 p1 p2
  obtain ⟨⟨f0, f1⟩, -⟩ := fltG_cells HF15.out.1
  rcases HC2.out with ⟨hcn, rfl, hrs⟩ | ⟨hcb, hnil, hev2⟩
  · have hcc0 : cc = 0 := by rw [HE.out.2.1, HE.out.1, hcn]; rfl
    subst hcc0
    have HOK : Hid (SetsOk P hs ∧ IsSets W15 (.slice ra rn rc) (roundD P hs)) := ⟨(consE_ok hcn).2, HKP.out.1 _ hrs⟩
    obtain ⟨⟨p0, p1, p2⟩, -⟩ := K.out W15 HF15.out.2
    have KRD : Hid (Calls Tryz.prog 28 #[.agg #[.slice a1 n1 c1, .slice a2 n2 c2, .slice a3 n3 c3], .slice ha n hc] W15 fun e w' => ∃ qa qn qc, e = .returned (.slice qa qn qc) ∧ IsSets w' (.slice qa qn qc) (roundD P hs) ∧ Below W15.heap.size W15 w') := by
      obtain ⟨-, -, q1, -, q2, -⟩ := K.out W15 HF15.out.2
      refine (refRoundOf_any P _ _ _ _ hs W15 HS.out.1 HCK.out q1 q2 HOK.out.1).mono ?_
      rintro e w' ⟨v, rfl, hr, hb⟩
      obtain ⟨qa, qc, rfl, hq⟩ := hr
      exact ⟨qa, _, qc, rfl, ⟨qa, qc, rfl, hq⟩, hb⟩
    clear hcn hrs
    go_wp2_with fail
    refine KRD.out.mono ?_
    rintro e w40 ⟨qa, qn, qc, rfl, hi40, hb40⟩
    have hok2 : SetsOk P (roundD P hs) := HOK.out.1.round HCK.out
    have KS2 : Hid (Calls Tryz.prog 27 #[.slice ra rn rc, .slice qa qn qc] w40 fun e w' => e = .returned (.bool true) ∧ Below w40.heap.size w40 w') := by
      obtain ⟨s1, s2, s3⟩ := right_small HCK.out
      have hpl := places_le P P.stmts.length
      have := hok2.len
      exact sameSets_true _ _ _ w40 (HOK.out.2.below hb40) hi40 (by omega) (fun j hj => by have := hok2.short HCK.out j hj; omega)
    have HB40 : Hid (Below w7.heap.size w7 w40) := bthen HF15.out.2 hb40
    clear hok2 hi40 hb40 KRD f0 f1
    go_wp2_with fail
    refine KS2.out.mono ?_
    rintro e w41 ⟨rfl, hb41⟩
    have HBF : Hid (Below w.heap.size w w41) := (K.out w41 (bthen HB40.out hb41)).2.2.2.2.2.2
    go_wp2_with fail
    go_ret
    exact ⟨rfl, HBF.out⟩
  · have gpos : 0 < cc := by rw [HE.out.2.1, HE.out.1]; exact codeG_pos hcb
    injection hnil with q1 q2 q3
    subst q1 q2 q3
    have KF : Hid (Calls Tryz.prog 25 #[ev2, .agg #[.int .i64 cc, .int .i64 ee]] W15 fun r w' => r = .returned (.bool true) ∧ Below W15.heap.size W15 w') := by
      obtain ⟨-, -, -, -, -, r3, -⟩ := K.out W15 HF15.out.2
      exact faulted2_any a (consE P hs) ev2 _ _ W15 r3 (HKP.out.2 _ _ hev2) (fun x hx => consE_lt hx) (by rw [← HE.out.1]; exact HE.out.2.1) (by rw [← HE.out.1]; exact HE.out.2.2)
    have hform : ∃ t x, ev2 = .iface t (.pointer (some x)) := by
      rcases hev2.cases with ⟨q, _⟩ | ⟨_, q⟩
      · rw [q] at hcb; cases hcb
      · exact q
    obtain ⟨t1, x1, rfl⟩ := hform
    clear hcb hev2
    go_wp2_with fail
    refine KF.out.mono ?_
    rintro e w41 ⟨rfl, hb41⟩
    have HBF : Hid (Below w.heap.size w w41) := (K.out w41 (bthen HF15.out.2 hb41)).2.2.2.2.2.2
    go_wp2_with fail
    go_ret
    exact ⟨rfl, HBF.out⟩
end Go.Proofs.YtfajpkdpnpdfkaaGreatDoor

/-
  FixLeast answers true at every program and sets that read as plain data.
-/
namespace Go.Proofs.YtfajpkdpnpdfkaaGreatDoor
open Go.RowKit Go.Extern.Stop Go.Stop Go.Extern

theorem fixLeast_any (a : Nat → Addr) (P : ProgD) (v1 v2 v3 hv : Value) (hs : List (List Int)) (w : World) (h : IsProg w v1 v2 v3 P) (hH : IsSets w hv hs) (hE : Errs w a) :
    Calls Tryz.prog 4 #[.agg #[v1, v2, v3], hv] w fun e w' => e = .returned (.bool true) ∧ Below w.heap.size w w' := by
  cases hc : checkE P with
  | none => exact fixLeast_ok a P v1 v2 v3 hv hs w h hH hE hc
  | some x => exact fixLeast_bad a P v1 v2 v3 hv hs w h hH hE (by rw [hc]; rfl)
end Go.Proofs.YtfajpkdpnpdfkaaGreatDoor

/-
  CallsTell answers true at every program that is wrong.
-/
import Derived.Test.YteekjigaicmohaaGreatDoorZPM
import Derived.Test.YteekjigaicmohaaGreatDoorXKM
import Derived.Test.YteekjigaicmohaaGreatDoorZLM
import Derived.Test.YteekjigaicmohaaGreatDoorCoded2
namespace Go.Proofs.YteekjigaicmohaaGreatDoor
open Go.RowKit Go.Extern.Stop Go.Stop Go.Extern

abbrev fltY (c e : Int) : Obj := .cells #[.int .i64 c, .int .i64 e] 52 (0, 0)
theorem codeY_pos {P : ProgD} (h : (checkE P).isNone = false) : 0 < codeE (checkE P) := by
  cases e : checkE P with
  | none => rw [e] at h; cases h
  | some q => show 0 < (q.1 : Int) + 1; omega
set_option maxRecDepth 100000 in
set_option maxHeartbeats 32000000 in
theorem callsTell_bad (a : Nat → Addr) (P : ProgD) (v1 v2 v3 : Value) (x y k : Int) (w : World) (hck : (checkE P).isNone = false) (h : IsProg w v1 v2 v3 P) (hE : Errs w a) :
    Calls Tryz.prog 6 #[.agg #[v1, v2, v3], .int .i64 x, .int .i64 y, .int .i64 k] w fun e w' => e = .returned (.bool true) ∧ Below w.heap.size w w' := by
  have H : Hid (IsProg w v1 v2 v3 P ∧ Errs w a) := ⟨h, hE⟩
  have HCK : Hid ((checkE P).isNone = false) := hck
  obtain ⟨⟨a1, c1, rfl, -, -⟩, ⟨a2, c2, rfl, -, -⟩, ⟨a3, c3, rfl, -, -⟩⟩ := h
  obtain ⟨n1, hn1⟩ : ∃ m, m = P.vars.length := ⟨_, rfl⟩
  obtain ⟨n2, hn2⟩ : ∃ m, m = P.funs.length := ⟨_, rfl⟩
  obtain ⟨n3, hn3⟩ : ∃ m, m = P.stmts.length := ⟨_, rfl⟩
  have HN : Hid (n1 = P.vars.length ∧ n2 = P.funs.length ∧ n3 = P.stmts.length) := ⟨hn1, hn2, hn3⟩
  rw [← hn1, ← hn2, ← hn3] at H ⊢
  clear hn1 hn2 hn3 hE hck
  obtain ⟨W, hW⟩ : ∃ W, W = w.alloc (.cells #[.slice a1 n1 c1, .slice a2 n2 c2, .slice a3 n3 c3] 26) := ⟨_, rfl⟩
  have hBW : Below w.heap.size w W := by rw [hW]; exact below1 w _
  have HBX : Hid (Box3 W w.heap.size (.slice a1 n1 c1) (.slice a2 n2 c2) (.slice a3 n3 c3)) := by
    show Box3 W _ _ _ _
    rw [hW]; exact box3_new w _ _ _ _
  have K1 : Hid (Calls Tryz.prog 28 #[] W fun e w' => e = .returned (.bool true) ∧ Below W.heap.size W w') := called_any a W (H.out.2.five.below hBW) (H.out.2.three.below hBW)
  rw [hW] at K1
  go_enter Tryz.func6, Tryz.ntmps6
  go_wp2_with fail
  refine K1.out.mono ?_
  rintro e w1 ⟨rfl, hB1⟩
  rw [← hW] at hB1
  clear K1 hW
  obtain ⟨p0, p1, p2⟩ := HBX.out.below hB1
  have hB1w : Below w.heap.size w w1 := hBW.trans (hB1.mono hBW.size)
  go_wp2_with fail
  refine (large_m 25 (by decide) P _ _ _ w1 (H.out.1.below hB1w)).mono ?_
  rintro e w2 ⟨r, rfl, hr, hB2⟩
  have hB2w : Below w.heap.size w w2 := hB1w.trans (hB2.mono hB1w.size)
  rcases hr with rfl | ⟨rfl, hs1, hs2, -⟩
  · go_wp2_with fail
    go_ret
    exact ⟨rfl, hB2w⟩
  have HS : Hid (SmallP P) := hs1
  have HSN : Hid (SmallN P) := hs2
  have HX2 : Hid (Box3 w2 w.heap.size (.slice a1 n1 c1) (.slice a2 n2 c2) (.slice a3 n3 c3)) := HBX.out.below (bthenY hB1 hB2)
  clear hs1 hs2 p0 p1 p2
  obtain ⟨p0, p1, p2⟩ := HX2.out
  go_wp2_with fail
  refine (ownProgram_any P _ _ _ w2 HS.out (H.out.1.below hB2w)).mono ?_
  rintro e w4 ⟨u1, u2, u3, rfl, hq, hB4⟩
  have HQ : Hid (IsProg w4 u1 u2 u3 P ∧ Below w.heap.size w w4 ∧ Box3 w4 w.heap.size (.slice a1 n1 c1) (.slice a2 n2 c2) (.slice a3 n3 c3)) := ⟨hq, bthenY hB2w hB4, HX2.out.below hB4⟩
  obtain ⟨⟨b1, d1, rfl, -, -⟩, ⟨b2, d2, rfl, -, -⟩, ⟨b3, d3, rfl, -, -⟩⟩ := hq
  rw [← HN.out.1, ← HN.out.2.1, ← HN.out.2.2] at HQ ⊢
  clear p0 p1 p2 hB1 hB2 hB4 hB1w hB2w hBW HBX HX2
  go_upto_region 5 with fail
  obtain ⟨W5, hW5⟩ : ∃ W5, W5 = w4.alloc (.cells #[.slice b1 n1 d1, .slice b2 n2 d2, .slice b3 n3 d3] 26) := ⟨_, rfl⟩
  have hB45 : Below w4.heap.size w4 W5 := by rw [hW5]; exact below1 w4 _
  have hX5 : Box3 W5 w4.heap.size (.slice b1 n1 d1) (.slice b2 n2 d2) (.slice b3 n3 d3) := by rw [hW5]; exact box3_new w4 _ _ _ _
  rw [← hW5]
  clear hW5
  obtain ⟨qb, hqb⟩ : ∃ b, b = w4.heap.size := ⟨_, rfl⟩
  rw [← hqb] at hX5 ⊢
  clear hqb
  have K5 : Hid (∀ wx, Below W5.heap.size W5 wx → Box3 wx qb (.slice b1 n1 d1) (.slice b2 n2 d2) (.slice b3 n3 d3) ∧ IsProg wx (.slice b1 n1 d1) (.slice b2 n2 d2) (.slice b3 n3 d3) P ∧ Box3 wx w.heap.size (.slice a1 n1 c1) (.slice a2 n2 c2) (.slice a3 n3 c3) ∧ Errs wx a ∧ IsProg wx (.slice a1 n1 c1) (.slice a2 n2 c2) (.slice a3 n3 c3) P ∧ Below w.heap.size w wx) := fun wx hx => by
    have h4 : Below w4.heap.size w4 wx := bthenY hB45 hx
    have hw : Below w.heap.size w wx := bthenY HQ.out.2.1 h4
    exact ⟨hX5.below hx, HQ.out.1.below h4, HQ.out.2.2.below h4, H.out.2.below hw, H.out.1.below hw, hw⟩
  clear hB45 hX5 HQ
  obtain ⟨⟨y0, y1, y2⟩, -⟩ := K5.out W5 (Below.refl _ _)
  have KG : Hid _ := graph_any a P _ _ _ W5 HS.out (K5.out W5 (Below.refl _ _)).2.1 (K5.out W5 (Below.refl _ _)).2.2.2.1.five (K5.out W5 (Below.refl _ _)).2.2.2.1.three
  go_wp2_with fail
  refine Calls.mono KG.out ?_
  rintro e w6 ⟨ga, gn, gc, ev1, rfl, hcs, hb6⟩
  rcases hcs with ⟨q, -⟩ | ⟨-, hnil, ⟨t1, x1, rfl⟩, hev1⟩
  case inl => have := HCK.out; rw [q] at this; cases this
  injection hnil with q1 q2 q3
  subst q1 q2 q3
  have HB6 : Hid (Below W5.heap.size W5 w6 ∧ ErrV w6 a (checkE P) (.iface t1 (.pointer (some x1)))) := ⟨hb6, hev1⟩
  clear KG y0 y1 y2 hb6 hev1
  obtain ⟨⟨y0, y1, y2⟩, -⟩ := K5.out w6 HB6.out.1
  have KA : Hid _ := alias_any a P _ _ _ x y w6 HS.out (K5.out w6 HB6.out.1).2.1 (K5.out w6 HB6.out.1).2.2.2.1.five (K5.out w6 HB6.out.1).2.2.2.1.three
  go_wp2_with fail
  refine Calls.mono KA.out ?_
  rintro e w7 ⟨b, ev2, rfl, hcs, hb7⟩
  rcases hcs with ⟨q, -⟩ | ⟨-, rfl, ⟨t2, x2, rfl⟩, hev2⟩
  case inl => have := HCK.out; rw [q] at this; cases this
  have HB7 : Hid (Below W5.heap.size W5 w7 ∧ ErrV w7 a (checkE P) (.iface t1 (.pointer (some x1))) ∧ ErrV w7 a (checkE P) (.iface t2 (.pointer (some x2)))) := ⟨bthenY HB6.out.1 hb7, HB6.out.2.below hb7, hev2⟩
  clear KA y0 y1 y2 hb7 hev2
  obtain ⟨⟨y0, y1, y2⟩, -⟩ := K5.out w7 HB7.out.1
  have KW : Hid _ := writes_any a P _ _ _ k w7 HS.out (K5.out w7 HB7.out.1).2.1 (K5.out w7 HB7.out.1).2.2.2.1.five (K5.out w7 HB7.out.1).2.2.2.1.three
  go_wp2_with fail
  refine Calls.mono KW.out ?_
  rintro e w8 ⟨wa, wn, wc, ev3, rfl, hcs, hb8⟩
  rcases hcs with ⟨q, -⟩ | ⟨-, hnil, ⟨t3, x3, rfl⟩, hev3⟩
  case inl => have := HCK.out; rw [q] at this; cases this
  injection hnil with q1 q2 q3
  subst q1 q2 q3
  have HB8 : Hid (Below W5.heap.size W5 w8 ∧ ErrV w8 a (checkE P) (.iface t1 (.pointer (some x1))) ∧ ErrV w8 a (checkE P) (.iface t2 (.pointer (some x2))) ∧ ErrV w8 a (checkE P) (.iface t3 (.pointer (some x3)))) := ⟨bthenY HB7.out.1 hb8, HB7.out.2.1.below hb8, HB7.out.2.2.below hb8, hev3⟩
  clear KW y0 y1 y2 hb8 hev3
  obtain ⟨⟨y0, y1, y2⟩, -⟩ := K5.out w8 HB8.out.1
  have KI : Hid _ := idle_any a P _ _ _ w8 HS.out (K5.out w8 HB8.out.1).2.1 (K5.out w8 HB8.out.1).2.2.2.1.five (K5.out w8 HB8.out.1).2.2.2.1.three
  go_wp2_with fail
  refine Calls.mono KI.out ?_
  rintro e w9 ⟨ia, inn, ic, ev4, rfl, hcs, hb9⟩
  rcases hcs with ⟨q, -⟩ | ⟨-, hnil, ⟨t4, x4, rfl⟩, hev4⟩
  case inl => have := HCK.out; rw [q] at this; cases this
  injection hnil with q1 q2 q3
  subst q1 q2 q3
  have HB9 : Hid (Below W5.heap.size W5 w9 ∧ ErrV w9 a (checkE P) (.iface t1 (.pointer (some x1))) ∧ ErrV w9 a (checkE P) (.iface t2 (.pointer (some x2))) ∧ ErrV w9 a (checkE P) (.iface t3 (.pointer (some x3))) ∧ ErrV w9 a (checkE P) (.iface t4 (.pointer (some x4)))) := ⟨bthenY HB8.out.1 hb9, HB8.out.2.1.below hb9, HB8.out.2.2.1.below hb9, HB8.out.2.2.2.below hb9, hev4⟩
  clear KI y0 y1 y2 hb9 hev4
  obtain ⟨c0, hc0⟩ : ∃ c, c = codeE (checkE P) := ⟨_, rfl⟩
  obtain ⟨e0, he0⟩ : ∃ c, c = placeE (checkE P) := ⟨_, rfl⟩
  have HC0 : Hid (c0 = codeE (checkE P) ∧ e0 = placeE (checkE P)) := ⟨hc0, he0⟩
  have KPF : Hid (Calls Tryz.prog 23 #[.agg #[.slice a1 n1 c1, .slice a2 n2 c2, .slice a3 n3 c3]] w9 fun e w' => e = .returned (.agg #[.int .i64 c0, .int .i64 e0]) ∧ Below w9.heap.size w9 w') := by
    have := refFault_any P _ _ _ w9 HS.out HSN.out (K5.out w9 HB9.out.1).2.2.2.2.1
    rw [← hc0, ← he0] at this
    exact this
  clear hc0 he0
  obtain ⟨p0, p1, p2⟩ := (K5.out w9 HB9.out.1).2.2.1
  go_wp2_with fail
  refine KPF.out.mono ?_
  rintro e w10 ⟨rfl, hB10⟩
  go_upto_region 10 with fail
  obtain ⟨V, hV⟩ : ∃ V, V = w10.alloc (fltY c0 e0) := ⟨_, rfl⟩
  have hBV : Below w10.heap.size w10 V := by rw [hV]; exact below1 w10 _
  have HV : Hid (V.heap[w10.heap.size]? = some (fltY c0 e0) ∧ Below w9.heap.size w9 V) := ⟨by rw [hV]; exact heap_new w10 _, bthenY hB10 hBV⟩
  rw [← hV]
  clear hV
  obtain ⟨fb, hfb⟩ : ∃ b, b = w10.heap.size := ⟨_, rfl⟩
  rw [← hfb] at HV ⊢
  clear hfb KPF p0 p1 p2 hB10 hBV
  have f0 : V.cell? ⟨fb, 0, none⟩ = some (.int .i64 c0) := by rw [Lib.cell_of_heap HV.out.1]; rfl
  have f1 : V.cell? ⟨fb, 1, none⟩ = some (.int .i64 e0) := by rw [Lib.cell_of_heap HV.out.1]; rfl
  have gpos : 0 < c0 := by rw [HC0.out.1]; exact codeY_pos HCK.out
  have KF : Hid (∀ v wx, Below V.heap.size V wx → ErrV w9 a (checkE P) v → Calls Tryz.prog 24 #[v, .agg #[.int .i64 c0, .int .i64 e0]] wx fun r w' => r = .returned (.bool true) ∧ Below wx.heap.size wx w') := fun v wx hx hv => by
    have h9 := bthenY HV.out.2 hx
    exact faulted2_any a (checkE P) v _ _ wx (K5.out wx (bthenY HB9.out.1 h9)).2.2.2.1 (hv.below h9) (fun x hx => checkE_lt hx) HC0.out.1 HC0.out.2
  go_wp2_with fail
  refine (KF.out _ V (Below.refl _ _) HB9.out.2.1).mono ?_
  rintro e w22 ⟨rfl, hb22⟩
  replace f0 := cell_keep hb22 f0
  replace f1 := cell_keep hb22 f1
  go_wp2_with fail
  refine (KF.out _ w22 hb22 HB9.out.2.2.1).mono ?_
  rintro e w23 ⟨rfl, hb23⟩
  have hb23' := bthenY hb22 hb23
  replace f0 := cell_keep hb23 f0
  replace f1 := cell_keep hb23 f1
  clear hb22 hb23
  go_wp2_with fail
  refine (KF.out _ w23 hb23' HB9.out.2.2.2.1).mono ?_
  rintro e w24 ⟨rfl, hb24⟩
  have hb24' := bthenY hb23' hb24
  replace f0 := cell_keep hb24 f0
  replace f1 := cell_keep hb24 f1
  clear hb23' hb24
  go_wp2_with fail
  refine (KF.out _ w24 hb24' HB9.out.2.2.2.2).mono ?_
  rintro e w25 ⟨rfl, hb25⟩
  have HBF : Hid (Below w.heap.size w w25) := (K5.out w25 (bthenY HB9.out.1 (bthenY HV.out.2 (bthenY hb24' hb25)))).2.2.2.2.2
  clear hb24' hb25 f0 f1
  go_wp2_with fail
  go_ret
  exact ⟨rfl, HBF.out⟩
end Go.Proofs.YteekjigaicmohaaGreatDoor

/-
  CallsTell answers true at every right program.
-/
namespace Go.Proofs.YteekjigaicmohaaGreatDoor
open Go.RowKit Go.Extern.Stop Go.Stop Go.Extern

theorem graph_pre (P : ProgD) (L : List (List Int)) {k n : Nat} (h : k ≤ n) : ∃ r, graphK P L n = graphK P L k ++ r := by
  induction n with
  | zero => exact ⟨[], by rw [show k = 0 by omega]; simp⟩
  | succ n ih =>
    by_cases hk : k = n + 1
    · exact ⟨[], by rw [hk]; simp⟩
    · obtain ⟨r, hr⟩ := ih (by omega)
      exact ⟨r ++ callsOf P L n, by rw [graphK_succ, hr, List.append_assoc]⟩
theorem graph_at {P : ProgD} {L : List (List Int)} {k n j : Nat} (h : k < n) (hj : j < (callsOf P L k).length) : (graphK P L k).length + j < (graphK P L n).length ∧ (graphK P L n).getD ((graphK P L k).length + j) default = (callsOf P L k).getD j default := by
  obtain ⟨r, hr⟩ := graph_pre P L (k := k + 1) (n := n) h
  rw [hr, graphK_succ]
  refine ⟨by simp; omega, ?_⟩
  rw [List.append_assoc]
  simp only [List.getD]
  rw [List.getElem?_append_right (by omega), Nat.add_sub_cancel_left, List.getElem?_append_left hj]
set_option maxRecDepth 100000 in
set_option maxHeartbeats 64000000 in
theorem callsTell_good (a : Nat → Addr) (P : ProgD) (v1 v2 v3 : Value) (x y k : Int) (w : World) (hck : checkE P = none) (h : IsProg w v1 v2 v3 P) (hE : Errs w a) :
    Calls Tryz.prog 6 #[.agg #[v1, v2, v3], .int .i64 x, .int .i64 y, .int .i64 k] w fun e w' => e = .returned (.bool true) ∧ Below w.heap.size w w' := by
  have H : Hid (IsProg w v1 v2 v3 P ∧ Errs w a) := ⟨h, hE⟩
  have HCK : Hid (checkE P = none) := hck
  obtain ⟨⟨a1, c1, rfl, -, -⟩, ⟨a2, c2, rfl, -, -⟩, ⟨a3, c3, rfl, -, -⟩⟩ := h
  obtain ⟨n1, hn1⟩ : ∃ m, m = P.vars.length := ⟨_, rfl⟩
  obtain ⟨n2, hn2⟩ : ∃ m, m = P.funs.length := ⟨_, rfl⟩
  obtain ⟨n3, hn3⟩ : ∃ m, m = P.stmts.length := ⟨_, rfl⟩
  have HN : Hid (n1 = P.vars.length ∧ n2 = P.funs.length ∧ n3 = P.stmts.length) := ⟨hn1, hn2, hn3⟩
  rw [← hn1, ← hn2, ← hn3] at H ⊢
  clear hn1 hn2 hn3 hE hck
  obtain ⟨W, hW⟩ : ∃ W, W = w.alloc (.cells #[.slice a1 n1 c1, .slice a2 n2 c2, .slice a3 n3 c3] 26) := ⟨_, rfl⟩
  have hBW : Below w.heap.size w W := by rw [hW]; exact below1 w _
  have HBX : Hid (Box3 W w.heap.size (.slice a1 n1 c1) (.slice a2 n2 c2) (.slice a3 n3 c3)) := by
    show Box3 W _ _ _ _
    rw [hW]; exact box3_new w _ _ _ _
  have K1 : Hid (Calls Tryz.prog 28 #[] W fun e w' => e = .returned (.bool true) ∧ Below W.heap.size W w') := called_any a W (H.out.2.five.below hBW) (H.out.2.three.below hBW)
  rw [hW] at K1
  go_enter Tryz.func6, Tryz.ntmps6
  go_wp2_with fail
  refine K1.out.mono ?_
  rintro e w1 ⟨rfl, hB1⟩
  rw [← hW] at hB1
  clear K1 hW
  obtain ⟨p0, p1, p2⟩ := HBX.out.below hB1
  have hB1w : Below w.heap.size w w1 := hBW.trans (hB1.mono hBW.size)
  go_wp2_with fail
  refine (large_m 25 (by decide) P _ _ _ w1 (H.out.1.below hB1w)).mono ?_
  rintro e w2 ⟨r, rfl, hr, hB2⟩
  have hB2w : Below w.heap.size w w2 := hB1w.trans (hB2.mono hB1w.size)
  rcases hr with rfl | ⟨rfl, hs1, hs2, -⟩
  · go_wp2_with fail
    go_ret
    exact ⟨rfl, hB2w⟩
  have HS : Hid (SmallP P) := hs1
  have HSN : Hid (SmallN P) := hs2
  have HX2 : Hid (Box3 w2 w.heap.size (.slice a1 n1 c1) (.slice a2 n2 c2) (.slice a3 n3 c3)) := HBX.out.below (bthenY hB1 hB2)
  clear hs1 hs2 p0 p1 p2
  obtain ⟨p0, p1, p2⟩ := HX2.out
  go_wp2_with fail
  refine (ownProgram_any P _ _ _ w2 HS.out (H.out.1.below hB2w)).mono ?_
  rintro e w4 ⟨u1, u2, u3, rfl, hq, hB4⟩
  have HQ : Hid (IsProg w4 u1 u2 u3 P ∧ Below w.heap.size w w4 ∧ Box3 w4 w.heap.size (.slice a1 n1 c1) (.slice a2 n2 c2) (.slice a3 n3 c3)) := ⟨hq, bthenY hB2w hB4, HX2.out.below hB4⟩
  obtain ⟨⟨b1, d1, rfl, -, -⟩, ⟨b2, d2, rfl, -, -⟩, ⟨b3, d3, rfl, -, -⟩⟩ := hq
  rw [← HN.out.1, ← HN.out.2.1, ← HN.out.2.2] at HQ ⊢
  clear p0 p1 p2 hB1 hB2 hB4 hB1w hB2w hBW HBX HX2
  go_upto_region 5 with fail
  obtain ⟨W5, hW5⟩ : ∃ W5, W5 = w4.alloc (.cells #[.slice b1 n1 d1, .slice b2 n2 d2, .slice b3 n3 d3] 26) := ⟨_, rfl⟩
  have hB45 : Below w4.heap.size w4 W5 := by rw [hW5]; exact below1 w4 _
  have hX5 : Box3 W5 w4.heap.size (.slice b1 n1 d1) (.slice b2 n2 d2) (.slice b3 n3 d3) := by rw [hW5]; exact box3_new w4 _ _ _ _
  rw [← hW5]
  clear hW5
  obtain ⟨qb, hqb⟩ : ∃ b, b = w4.heap.size := ⟨_, rfl⟩
  rw [← hqb] at hX5 ⊢
  clear hqb
  have K5 : Hid (∀ wx, Below W5.heap.size W5 wx → Box3 wx qb (.slice b1 n1 d1) (.slice b2 n2 d2) (.slice b3 n3 d3) ∧ IsProg wx (.slice b1 n1 d1) (.slice b2 n2 d2) (.slice b3 n3 d3) P ∧ Box3 wx w.heap.size (.slice a1 n1 c1) (.slice a2 n2 c2) (.slice a3 n3 c3) ∧ Errs wx a ∧ IsProg wx (.slice a1 n1 c1) (.slice a2 n2 c2) (.slice a3 n3 c3) P ∧ Below w.heap.size w wx) := fun wx hx => by
    have h4 : Below w4.heap.size w4 wx := bthenY hB45 hx
    have hw : Below w.heap.size w wx := bthenY HQ.out.2.1 h4
    exact ⟨hX5.below hx, HQ.out.1.below h4, HQ.out.2.2.below h4, H.out.2.below hw, H.out.1.below hw, hw⟩
  clear hB45 hX5 HQ
  obtain ⟨⟨y0, y1, y2⟩, -⟩ := K5.out W5 (Below.refl _ _)
  have KG : Hid _ := graph_any a P _ _ _ W5 HS.out (K5.out W5 (Below.refl _ _)).2.1 (K5.out W5 (Below.refl _ _)).2.2.2.1.five (K5.out W5 (Below.refl _ _)).2.2.2.1.three
  go_wp2_with fail
  refine Calls.mono KG.out ?_
  rintro e w6 ⟨ga, gn, gc, ev1, rfl, hcs, hb6⟩
  rcases hcs with ⟨-, rfl, L, hL, hg⟩ | ⟨q, -⟩
  case inr => rw [HCK.out] at q; cases q
  have HG : Hid (LeastL P L ∧ IsPairs w6 (.slice ga gn gc) (graphK P L P.stmts.length) ∧ Good P L) := ⟨hL, hg, hL.good HCK.out⟩
  have HB6 : Hid (Below W5.heap.size W5 w6) := hb6
  clear KG y0 y1 y2 hb6 hL hg
  obtain ⟨⟨y0, y1, y2⟩, -⟩ := K5.out w6 HB6.out
  have KA : Hid _ := alias_any a P _ _ _ x y w6 HS.out (K5.out w6 HB6.out).2.1 (K5.out w6 HB6.out).2.2.2.1.five (K5.out w6 HB6.out).2.2.2.1.three
  go_wp2_with fail
  refine Calls.mono KA.out ?_
  rintro e w7 ⟨b, ev2, rfl, hcs, hb7⟩
  have HA7 : Hid ((inL L.length x = true ∧ inL L.length y = true ∧ ev2 = .nilIface ∧ b = aliasB L x y) ∨ ((inL L.length x && inL L.length y) = false ∧ b = false ∧ ev2 = errB a)) := by
    rcases hcs with ⟨-, M, hM, hcs⟩ | ⟨q, -⟩
    · rw [← HG.out.1.uniq hM] at hcs; exact hcs
    · rw [HCK.out] at q; cases q
  have HB7 : Hid (Below W5.heap.size W5 w7 ∧ Below w6.heap.size w6 w7) := ⟨bthenY HB6.out hb7, hb7⟩
  clear KA y0 y1 y2 hb7 hcs
  obtain ⟨⟨y0, y1, y2⟩, -⟩ := K5.out w7 HB7.out.1
  have KW : Hid _ := writes_any a P _ _ _ k w7 HS.out (K5.out w7 HB7.out.1).2.1 (K5.out w7 HB7.out.1).2.2.2.1.five (K5.out w7 HB7.out.1).2.2.2.1.three
  go_wp2_with fail
  refine Calls.mono KW.out ?_
  rintro e w8 ⟨wa, wn, wc, ev3, rfl, hcs, hb8⟩
  have HW8 : Hid ((∃ K : Nat, k = (K : Int) ∧ K < P.stmts.length ∧ ev3 = .nilIface ∧ IsInts w8 (.slice wa wn wc) (norm (changedL P L (P.stmts.getD K default)))) ∨ (inL P.stmts.length k = false ∧ Value.slice wa wn wc = .slice none 0 0 ∧ ev3 = errB a)) := by
    rcases hcs with ⟨-, M, hM, hcs⟩ | ⟨q, -⟩
    · rw [← HG.out.1.uniq hM] at hcs; exact hcs
    · rw [HCK.out] at q; cases q
  have HB8 : Hid (Below W5.heap.size W5 w8 ∧ Below w6.heap.size w6 w8) := ⟨bthenY HB7.out.1 hb8, bthenY HB7.out.2 hb8⟩
  clear KW y0 y1 y2 hb8 hcs
  obtain ⟨⟨y0, y1, y2⟩, -⟩ := K5.out w8 HB8.out.1
  have KI : Hid _ := idle_any a P _ _ _ w8 HS.out (K5.out w8 HB8.out.1).2.1 (K5.out w8 HB8.out.1).2.2.2.1.five (K5.out w8 HB8.out.1).2.2.2.1.three
  go_wp2_with fail
  refine Calls.mono KI.out ?_
  rintro e w9 ⟨ia, inn, ic, ev4, rfl, hcs, hb9⟩
  rcases hcs with ⟨-, rfl, M, hM, hi⟩ | ⟨q, -⟩
  case inr => rw [HCK.out] at q; cases q
  rw [← HG.out.1.uniq hM] at hi
  have HI9 : Hid (IsInts w9 (.slice ia inn ic) (pickK (idK P L) P.stmts.length) ∧ P.stmts.length ≤ 80) := ⟨hi, HG.out.2.2.len.2.2.2.2⟩
  have HB9 : Hid (Below W5.heap.size W5 w9 ∧ Below w6.heap.size w6 w9 ∧ Below w8.heap.size w8 w9) := ⟨bthenY HB8.out.1 hb9, bthenY HB8.out.2 hb9, hb9⟩
  clear KI y0 y1 y2 hb9 hM hi
  obtain ⟨c0, hc0⟩ : ∃ c, c = codeE (checkE P) := ⟨_, rfl⟩
  obtain ⟨e0, he0⟩ : ∃ c, c = placeE (checkE P) := ⟨_, rfl⟩
  have HC0 : Hid (c0 = codeE (checkE P) ∧ e0 = placeE (checkE P)) := ⟨hc0, he0⟩
  have KPF : Hid (Calls Tryz.prog 23 #[.agg #[.slice a1 n1 c1, .slice a2 n2 c2, .slice a3 n3 c3]] w9 fun e w' => e = .returned (.agg #[.int .i64 c0, .int .i64 e0]) ∧ Below w9.heap.size w9 w') := by
    have := refFault_any P _ _ _ w9 HS.out HSN.out (K5.out w9 HB9.out.1).2.2.2.2.1
    rw [← hc0, ← he0] at this
    exact this
  clear hc0 he0
  obtain ⟨p0, p1, p2⟩ := (K5.out w9 HB9.out.1).2.2.1
  go_wp2_with fail
  refine KPF.out.mono ?_
  rintro e w10 ⟨rfl, hB10⟩
  go_upto_region 10 with fail
  obtain ⟨V, hV⟩ : ∃ V, V = w10.alloc (fltY c0 e0) := ⟨_, rfl⟩
  have hBV : Below w10.heap.size w10 V := by rw [hV]; exact below1 w10 _
  have HV : Hid (V.heap[w10.heap.size]? = some (fltY c0 e0) ∧ Below w9.heap.size w9 V) := ⟨by rw [hV]; exact heap_new w10 _, bthenY hB10 hBV⟩
  rw [← hV]
  clear hV
  obtain ⟨fb, hfb⟩ : ∃ b, b = w10.heap.size := ⟨_, rfl⟩
  rw [← hfb] at HV ⊢
  clear hfb KPF p0 p1 p2 hB10 hBV
  have f0 : V.cell? ⟨fb, 0, none⟩ = some (.int .i64 c0) := by rw [Lib.cell_of_heap HV.out.1]; rfl
  have f1 : V.cell? ⟨fb, 1, none⟩ = some (.int .i64 e0) := by rw [Lib.cell_of_heap HV.out.1]; rfl
  have gz : c0 = 0 := by rw [HC0.out.1, HCK.out]; rfl
  subst gz
  have HV9 : Hid (Below W5.heap.size W5 V ∧ Below w6.heap.size w6 V ∧ Below w8.heap.size w8 V ∧ Below w9.heap.size w9 V) := ⟨bthenY HB9.out.1 HV.out.2, bthenY HB9.out.2.1 HV.out.2, bthenY HB9.out.2.2 HV.out.2, HV.out.2⟩
  obtain ⟨p0, p1, p2⟩ := (K5.out V HV9.out.1).2.2.1
  have KL : Hid _ := refLeast_any P _ _ _ V HS.out HCK.out (K5.out V HV9.out.1).2.2.2.2.1
  go_wp2_with fail
  refine Calls.mono KL.out ?_
  rintro e w12 ⟨va, vn, vc, mm, rfl, hfx, hi12, hb12⟩
  have hLL : iterD P mm = L := (HG.out.1.uniq ⟨mm, hfx, rfl⟩).symm
  rw [hLL] at hi12
  have hvn : vn = L.length := by
    obtain ⟨_, _, e, _⟩ := hi12
    injection e
  have HLS : Hid (IsSets w12 (.slice va vn vc) L) := hi12
  have HVN : Hid (vn = L.length) := hvn
  have HB12 : Hid (Below W5.heap.size W5 w12 ∧ Below w6.heap.size w6 w12 ∧ Below w8.heap.size w8 w12 ∧ Below w9.heap.size w9 w12) := ⟨bthenY HV9.out.1 hb12, bthenY HV9.out.2.1 hb12, bthenY HV9.out.2.2.1 hb12, bthenY HV9.out.2.2.2 hb12⟩
  clear KL p0 p1 p2 f0 f1 hfx hi12 hb12 hLL hvn
  obtain ⟨ga', gc', eg, hgr⟩ := HG.out.2.1
  injection eg with g1 g2 g3
  subst g1 g3
  have HGR : Hid (∀ wx, Below w12.heap.size w12 wx → ∀ j, j < gn → ∃ g, ga = some ⟨g, 0, none⟩ ∧ wx.cell? ⟨g, j * 2, none⟩ = some (.int .i64 ((graphK P L P.stmts.length).getD j default).1) ∧ wx.cell? ⟨g, j * 2 + 1, none⟩ = some (.int .i64 ((graphK P L P.stmts.length).getD j default).2)) := fun wx hx j hj => by
    obtain ⟨g, h1, h2, h3⟩ := hgr j (by rw [← g2]; exact hj)
    have := bthenY HB12.out.2.1 hx
    exact ⟨g, h1, cell_keep this h2, cell_keep this h3⟩
  have HGN : Hid (gn = (graphK P L P.stmts.length).length) := g2
  have hgl : ∀ j, j ≤ n3 → (graphK P L j).length ≤ 16000 := fun j hj => by
    have h1 := flat_len (List.range j) (callsOf P L) 200 (fun i hi => by
      unfold callsOf
      rw [List.length_map]
      exact (called_in HG.out.2.2 (mem_getDY default (by rw [← HN.out.2.2]; have := List.mem_range.1 hi; omega))).2)
    rw [List.length_range] at h1
    have h80 := HI9.out.2
    have h3 := HN.out.2.2
    have h2 : j * 200 ≤ 80 * 200 := Nat.mul_le_mul (by omega) (Nat.le_refl _)
    show ((List.range j).flatMap (callsOf P L)).length ≤ 16000
    omega
  have HGL : Hid (∀ j, j ≤ n3 → (graphK P L j).length ≤ 16000) := hgl
  have hn80 : n3 ≤ 80 := by rw [HN.out.2.2]; exact HI9.out.2
  clear hgr g2 hgl
  go_wp2_with fail
  go_loopw [22, 23] (fun u t wr => ∃ s : Nat, s ≤ n3 ∧ t = .int .i64 s ∧ u = .int .i64 (((graphK P L s).length : Nat) : Int) ∧ Below w12.heap.size w12 wr) (fun _ t _ => (n3 - intOf t).toNat)
  case atStart => exact ⟨0, Nat.zero_le _, rfl, rfl, Below.refl _ _⟩
  case round =>
    obtain ⟨s, hs, rfl, rfl, hwr⟩ := hrel
    obtain ⟨p0, p1, p2⟩ := (K5.out wr (bthenY HB12.out.1 hwr)).2.2.1
    by_cases hlt : s < n3
    · have hsi : (s : Int) < n3 := by omega
      have hsS : s < P.stmts.length := by rw [← HN.out.2.2]; exact hlt
      have KC : Hid _ := refCalled_any P L HS.out HG.out.2.2 s hsS va vn vc _ _ _ wr (K5.out wr (bthenY HB12.out.1 hwr)).2.2.2.2.1 (HLS.out.below hwr)
      have hbig := HGL.out s hs
      clear hsS
      go_wp2_with fail
      refine Calls.mono KC.out ?_
      rintro e w17 ⟨xa, xc, rfl, hi17, hb17⟩
      obtain ⟨zs, hzs⟩ : ∃ z, z = calledL P L (P.stmts.getD s default) := ⟨_, rfl⟩
      rw [← hzs] at hi17 ⊢
      obtain ⟨xa', xc', e17, hce⟩ := isInts_cells hi17
      cases e17
      obtain ⟨m, hm⟩ : ∃ m, m = zs.length := ⟨_, rfl⟩
      have hcof : callsOf P L s = zs.map (fun f => ((s : Int), f)) := by unfold callsOf; rw [hzs]
      have hm200 : m ≤ 200 := by rw [hm, hzs]; exact (called_in HG.out.2.2 (mem_getDY default (by rw [← HN.out.2.2]; exact hlt))).2
      rw [← hm] at hce ⊢
      have HC : Hid (m = zs.length ∧ callsOf P L s = zs.map (fun f => ((s : Int), f)) ∧ ∀ j, j < m → ∃ b o, xa = some ⟨b, o, none⟩ ∧ w17.cell? ⟨b, o + j, none⟩ = some (.int .i64 (zs.getD j 0))) := ⟨hm, hcof, hce⟩
      have HB17 : Hid (Below w12.heap.size w12 w17) := bthenY hwr hb17
      obtain ⟨G0, hG0⟩ : ∃ g, g = (graphK P L s).length := ⟨_, rfl⟩
      rw [← hG0] at hbig ⊢
      have HG0 : Hid (G0 = (graphK P L s).length ∧ (graphK P L (s + 1)).length = G0 + m) := ⟨hG0, by rw [graphK_succ, List.length_append, hcof, List.length_map, ← hm, hG0]⟩
      clear KC hi17 hb17 hzs hce hm hcof hG0 p0 p1 p2
      go_wp2_with fail
      go_loopw [22, 25] (fun u t wq => ∃ j : Nat, j ≤ m ∧ t = .int .i64 j ∧ u = .int .i64 ((G0 + j : Nat) : Int) ∧ Below w17.heap.size w17 wq) (fun _ t _ => (m - intOf t).toNat)
      case atStart => exact ⟨0, Nat.zero_le _, rfl, rfl, Below.refl _ _⟩
      case round =>
        obtain ⟨j, hj, rfl, rfl, hwq⟩ := hrel
        by_cases hlt2 : j < m
        · have hji : (j : Int) < m := by omega
          obtain ⟨gat1, gat2⟩ := graph_at (P := P) (L := L) (k := s) (n := P.stmts.length) (j := j) (by rw [← HN.out.2.2]; exact hlt) (by rw [HC.out.2.1, List.length_map, ← HC.out.1]; exact hlt2)
          rw [← HG0.out.1] at gat1 gat2
          rw [← HGN.out] at gat1
          obtain ⟨N, hN⟩ : ∃ N, N = G0 + j := ⟨_, rfl⟩
          rw [← hN] at gat1 gat2 ⊢
          have HNe : Hid (N = G0 + j) := hN
          obtain ⟨g, rfl, c1g, c2g⟩ := HGR.out wr (bthenY HB17.out hwq) N gat1
          obtain ⟨lb, lo, rfl, cl⟩ := HC.out.2.2 j hlt2
          replace cl := cell_keep hwq cl
          have hpair : (callsOf P L s).getD j default = ((s : Int), zs.getD j 0) := by
            rw [HC.out.2.1]
            have : j < zs.length := by rw [← HC.out.1]; exact hlt2
            simp [List.getD, this]
          rw [gat2, hpair] at c1g c2g
          obtain ⟨f, hf⟩ : ∃ f, f = zs.getD j 0 := ⟨_, rfl⟩
          rw [← hf] at cl c2g
          dsimp only at c1g c2g
          have hNi : (N : Int) < gn := by omega
          have hNg : ¬ (gn : Int) ≤ (N : Int) := by omega
          have hNb : N ≤ 20000 := by omega
          clear gat1 gat2 hpair hf hN
          go_upto_region 23 with fail
          go_quiet (fail)
          go_wp2_with fail
          go_roundw
          case rel => exact ⟨j + 1, hlt2, by go_num, (by rw [← Nat.add_assoc, ← HNe.out]; go_num), below_drewN hwq _⟩
          case measure => simp [intOf]; omega
        · have hjm : j = m := by omega
          have HEX : Hid (((G0 + j : Nat) : Int) = (((graphK P L (s + 1)).length : Nat) : Int) ∧ Below w12.heap.size w12 wr) := ⟨by rw [HG0.out.2, hjm], bthenY HB17.out hwq⟩
          rw [HEX.out.1]
          clear hwq hjm
          go_wp2_with fail
          go_roundw
          case rel => exact ⟨s + 1, hlt, by go_num, rfl, HEX.out.2⟩
          case measure => simp [intOf]; omega
    · have hsn : s = P.stmts.length := by rw [← HN.out.2.2]; omega
      have hgs : (graphK P L s).length = gn := by rw [hsn, ← HGN.out]
      rw [hgs]
      have HWR0 : Hid (Below w12.heap.size w12 wr) := hwr
      have KRI : Hid _ := refIdle_any P L HS.out HG.out.2.2 va vn vc _ _ _ wr (K5.out wr (bthenY HB12.out.1 hwr)).2.2.2.2.1 (HLS.out.below hwr)
      clear hsn hgs hwr
      go_wp2_with fail
      refine Calls.mono KRI.out ?_
      rintro e w26 ⟨xa, xc, rfl, hi26, hb26⟩
      have HB26 : Hid (Below w12.heap.size w12 w26) := bthenY HWR0.out hb26
      have KSI : Hid _ := sameInts_true _ (.slice ia inn ic) _ w26 (by have := pick_len (idK P L) P.stmts.length; have := HI9.out.2; omega) (HI9.out.1.below (bthenY HB12.out.2.2.2 HB26.out)) hi26
      clear KRI hi26 hb26 p0 p1 p2 hlt
      go_wp2_with fail
      refine Calls.mono KSI.out ?_
      rintro e w27 ⟨rfl, hb27⟩
      have HB27 : Hid (Below w12.heap.size w12 w27) := bthenY HB26.out hb27
      clear KSI hb27
      by_cases hxy : (inL L.length x && inL L.length y) = true
      · have hin := HA7.out
        rcases hin with ⟨q1, q2, rfl, hb⟩ | ⟨q, -⟩
        case inr => rw [hxy] at q; cases q
        obtain ⟨X, rfl, hXn⟩ := inL_nat q1
        obtain ⟨Y, rfl, hYn⟩ := inL_nat q2
        have hXv : X < vn := by rw [HVN.out]; exact hXn
        have hYv : Y < vn := by rw [HVN.out]; exact hYn
        obtain ⟨va', vc', ev', hr⟩ := HLS.out
        injection ev' with r1 r2 r3
        subst r1 r3
        obtain ⟨rb, ro, ux, rfl, x1, x2⟩ := hr X hXn
        obtain ⟨rb', ro', uy, e2, y1, y2⟩ := hr Y hYn
        cases e2
        have hsx : setAt L (X : Int) = L.getD X [] := by unfold setAt; rw [Int.toNat_natCast]
        have hsy : setAt L (Y : Int) = L.getD Y [] := by unfold setAt; rw [Int.toNat_natCast]
        rw [← hsx] at x2
        rw [← hsy] at y2
        have hlx : (setAt L (X : Int)).length ≤ 200 := by rw [hsx]; exact (HG.out.2.2.row X hXn).1
        have hly : (setAt L (Y : Int)).length ≤ 200 := by rw [hsy]; exact (HG.out.2.2.row Y hYn).1
        obtain ⟨zx, hzx⟩ : ∃ z, z = setAt L (X : Int) := ⟨_, rfl⟩
        obtain ⟨zy, hzy⟩ : ∃ z, z = setAt L (Y : Int) := ⟨_, rfl⟩
        rw [← hzx] at x2 hlx
        rw [← hzy] at y2 hly
        obtain ⟨ua, uc, rfl, hcx⟩ := isInts_cells x2
        obtain ⟨ta, tc, rfl⟩ := isInts_form y2
        obtain ⟨lx, hlxe⟩ : ∃ l, l = zx.length := ⟨_, rfl⟩
        obtain ⟨ly, hlye⟩ : ∃ l, l = zy.length := ⟨_, rfl⟩
        rw [← hlxe] at x1 hlx hcx
        rw [← hlye] at y1 hly y2
        have HXC : Hid (lx = zx.length ∧ ∀ j, j < lx → ∃ b o, ua = some ⟨b, o, none⟩ ∧ w12.cell? ⟨b, o + j, none⟩ = some (.int .i64 (zx.getD j 0))) := ⟨hlxe, hcx⟩
        have HBA : Hid (b = zx.any fun o => zy.contains o) := by
          show _ = _
          rw [hb, hzx, hzy, Bool.eq_iff_iff, alias_iff, List.any_eq_true]
          constructor
          · rintro ⟨o, h1, h2⟩; exact ⟨o, h1, List.contains_iff_mem.2 h2⟩
          · rintro ⟨o, h1, h2⟩; exact ⟨o, h1, List.contains_iff_mem.1 h2⟩
        have KHZ : Hid (∀ wx z, Below w12.heap.size w12 wx → Calls Tryz.prog 35 #[.slice ta ly tc, .int .i64 z] wx fun e w' => e = .returned (.bool (zy.contains z)) ∧ w' = wx) := fun wx z hx => refHas_any zy _ z wx (by omega) (y2.below hx)
        have hXi : (X : Int) < vn := by omega
        have hYi : (Y : Int) < vn := by omega
        have hX0 : ¬ (X : Int) < 0 := by omega
        have hY0 : ¬ (Y : Int) < 0 := by omega
        have hXg : ¬ (vn : Int) ≤ (X : Int) := by omega
        have hYg : ¬ (vn : Int) ≤ (Y : Int) := by omega
        clear hr x2 y2 hsx hsy hzx hzy hlxe hlye hcx r2 hb hxy q1 q2 hXn hYn hXv hYv
        have xx1 := cell_keep HB27.out x1
        have yy1 := cell_keep HB27.out y1
        go_wp2_with fail
        clear xx1 yy1
        go_loopw [26, 27] (fun u t wq => ∃ j : Nat, j ≤ lx ∧ t = .int .i64 j ∧ u = .bool ((zx.take j).any fun o => zy.contains o) ∧ Below w27.heap.size w27 wq) (fun _ t _ => (lx - intOf t).toNat)
        case atStart => exact ⟨0, Nat.zero_le _, rfl, by simp, Below.refl _ _⟩
        case round =>
          obtain ⟨j, hj, rfl, rfl, hwq⟩ := hrel
          have hw12 := bthenY HB27.out hwq
          have xr := cell_keep hw12 x1
          have yr := cell_keep hw12 y1
          by_cases hlj : j < lx
          · have hji : (j : Int) < lx := by omega
            obtain ⟨lb, lo, rfl, ec⟩ := HXC.out.2 j hlj
            replace ec := cell_keep hw12 ec
            obtain ⟨z, hz⟩ : ∃ z, z = zx.getD j 0 := ⟨_, rfl⟩
            rw [← hz] at ec
            obtain ⟨D, hD⟩ : ∃ D, D = zy.contains z := ⟨_, rfl⟩
            have KQ : Hid (∀ q, Calls Tryz.prog 35 #[.slice ta ly tc, .int .i64 z] (wr.drewN q) fun e w' => e = .returned (.bool D) ∧ w' = wr.drewN q) := fun q => by
              rw [hD]
              exact KHZ.out _ z (below_drewN hw12 _)
            have HNX : Hid (((zx.take (j + 1)).any fun o => zy.contains o) = (((zx.take j).any fun o => zy.contains o) || D)) := by
              show _ = _
              rw [take_snoc zx 0 j (by rw [← HXC.out.1]; exact hlj), List.any_append, hD, hz]
              simp
            obtain ⟨B, hB⟩ : ∃ B, B = ((zx.take j).any fun o => zy.contains o) := ⟨_, rfl⟩
            rw [← hB] at HNX ⊢
            clear hz hD hB
            go_upto_region 35 with fail
            go_quiet ((go_at_call 35; refine Calls.quiet_of_same (KQ.out _)))
            cases D with
            | true =>
              go_wp2_with fail
              go_roundw
              case rel => exact ⟨j + 1, hlj, by go_num, (by rw [HNX.out, Bool.or_true]), below_drewN hwq _⟩
              case measure => simp [intOf]; omega
            | false =>
              go_wp2_with fail
              go_roundw
              case rel => exact ⟨j + 1, hlj, by go_num, (by rw [HNX.out, Bool.or_false]), below_drewN hwq _⟩
              case measure => simp [intOf]; omega
          · have hfull : ((zx.take j).any fun o => zy.contains o) = b := by
              rw [HBA.out, List.take_of_length_le (by rw [← HXC.out.1]; omega)]
            rw [hfull]
            have HWT : Hid (Below W5.heap.size W5 wr ∧ Below w12.heap.size w12 wr ∧ Below w8.heap.size w8 wr) := ⟨bthenY HB12.out.1 hw12, hw12, bthenY HB12.out.2.2.1 hw12⟩
            have hjx : ¬ (j : Int) < lx := by omega
            clear hfull hwq hw12 hlj
            by_cases hkn : inL n3 k = true
            · obtain ⟨K, rfl, hKn⟩ := inL_nat hkn
              have hki : (K : Int) < n3 := by omega
              have hK0 : ¬ (K : Int) < 0 := by omega
              have HKS : Hid (K < P.stmts.length) := by rw [HN.out.2.2] at hKn; exact hKn
              have HWR : Hid (ev3 = .nilIface ∧ IsInts w8 (.slice wa wn wc) (norm (changedL P L (P.stmts.getD K default))) ∧ (norm (changedL P L (P.stmts.getD K default))).length ≤ 10000) := by
                rcases HW8.out with ⟨K', hKK, hK2, q1, q2⟩ | ⟨q, -⟩
                · obtain rfl : K = K' := by omega
                  exact ⟨q1, q2, Nat.le_trans (norm_length_le _) (changed_in HG.out.2.2 (mem_getDY default hK2)).2⟩
                · rw [← HN.out.2.2] at q
                  rw [hkn] at q
                  cases q
              have he3 : ev3 = .nilIface := HWR.out.1
              subst he3
              have KWR : Hid _ := refWrites_any P L HS.out HG.out.2.2 K HKS.out _ _ _ _ _ _ wr (K5.out wr HWT.out.1).2.2.2.2.1 (HLS.out.below HWT.out.2.1)
              obtain ⟨p0, p1, p2⟩ := (K5.out wr HWT.out.1).2.2.1
              clear hkn hKn
              go_wp2_with fail
              refine Calls.mono KWR.out ?_
              rintro e w50 ⟨vv, rfl, hi50, hb50⟩
              have HB50 : Hid (Below wr.heap.size wr w50) := hb50
              have KSM : Hid _ := sameInts_true _ (.slice wa wn wc) vv w50 (by have := HWR.out.2.2; omega) (HWR.out.2.1.below (bthenY HWT.out.2.2 hb50)) hi50
              obtain ⟨sva, svc, rfl⟩ := isInts_form hi50
              clear KWR hi50 hb50 p0 p1 p2
              go_wp2_with fail
              refine Calls.mono KSM.out ?_
              rintro e w51 ⟨rfl, hb51⟩
              have HBF : Hid (Below w.heap.size w w51) := (K5.out w51 (bthenY HWT.out.1 (bthenY HB50.out hb51))).2.2.2.2.2
              clear KSM hb51
              go_wp2_with fail
              go_ret
              exact ⟨rfl, HBF.out⟩
            · have HKN : Hid (inL P.stmts.length k = false) := by
                show _ = _
                rw [← HN.out.2.2]
                cases e : inL n3 k with
                | true => exact absurd e hkn
                | false => rfl
              have HWR : Hid (Value.slice wa wn wc = .slice none 0 0 ∧ ev3 = errB a) := by
                rcases HW8.out with ⟨K', hKK, hK2, -⟩ | ⟨-, q1, q2⟩
                · have := HKN.out
                  rw [hKK, inL_of hK2] at this
                  cases this
                · exact ⟨q1, q2⟩
              obtain ⟨hnw, he3⟩ := HWR.out
              injection hnw with q1 q2 q3
              subst q1 q2 q3 he3
              have KCD : Hid (Calls Tryz.prog 21 #[.iface 267 (.pointer (some (a 1))), .int .i64 2] wr fun e w' => e = .returned (.bool true) ∧ Below wr.heap.size wr w') := coded2_err a 1 2 wr (by decide) (by decide) (K5.out wr HWT.out.1).2.2.2.1
              obtain ⟨p0, p1, p2⟩ := (K5.out wr HWT.out.1).2.2.1
              unfold errB
              by_cases hk0 : k < 0
              · clear hkn
                go_wp2_with fail
                refine KCD.out.mono ?_
                rintro e w50 ⟨rfl, hb50⟩
                have HBF : Hid (Below w.heap.size w w50) := (K5.out w50 (bthenY HWT.out.1 hb50)).2.2.2.2.2
                clear hb50 p0 p1 p2
                go_wp2_with fail
                go_ret
                exact ⟨rfl, HBF.out⟩
              · have hk1 : ¬ k < (n3 : Int) := fun q => hkn (by
                  unfold inL
                  rw [decide_eq_true (by omega), decide_eq_true q]; rfl)
                have hk2 : (n3 : Int) ≤ k := by omega
                clear hkn
                go_wp2_with fail
                refine KCD.out.mono ?_
                rintro e w50 ⟨rfl, hb50⟩
                have HBF : Hid (Below w.heap.size w w50) := (K5.out w50 (bthenY HWT.out.1 hb50)).2.2.2.2.2
                clear hb50 p0 p1 p2
                go_wp2_with fail
                go_ret
                exact ⟨rfl, HBF.out⟩
      · have hout := HA7.out
        rcases hout with ⟨q1, q2, -⟩ | ⟨-, rfl, rfl⟩
        · rw [q1, q2] at hxy; exact absurd rfl hxy
        have KCO : Hid (Calls Tryz.prog 21 #[.iface 267 (.pointer (some (a 1))), .int .i64 2] w27 fun e w' => e = .returned (.bool true) ∧ Below w27.heap.size w27 w') := coded2_err a 1 2 w27 (by decide) (by decide) (K5.out w27 (bthenY HB12.out.1 HB27.out)).2.2.2.1
        unfold errB
        go_upto_region 28 with fail
        go_cut [184] (fun t wx => t = .bool true ∧ wx = w27)
        case first =>
          by_cases hx0 : x < 0
          · go_wp2_with fail
            go_meet
            exact ⟨rfl, rfl⟩
          · by_cases hx1 : (vn : Int) ≤ x
            · go_wp2_with fail
              go_meet
              exact ⟨rfl, rfl⟩
            · by_cases hy0 : y < 0
              · go_wp2_with fail
                go_meet
                exact ⟨rfl, rfl⟩
              · have hy1 : (vn : Int) ≤ y := by
                  refine Classical.byContradiction fun q => hxy ?_
                  have h1 := HVN.out
                  unfold inL
                  rw [decide_eq_true (by omega), decide_eq_true (by omega), decide_eq_true (by omega), decide_eq_true (by omega)]
                  rfl
                go_wp2_with fail
                go_meet
                exact ⟨rfl, rfl⟩
        case rest =>
        obtain ⟨rfl, hwc⟩ := hcut
        have hw27 : w27 = wc := hwc.symm
        clear hwc
        subst hw27
        go_wp2_with fail
        refine KCO.out.mono ?_
        rintro e w28 ⟨rfl, hb28⟩
        have HWT : Hid (Below W5.heap.size W5 w28 ∧ Below w12.heap.size w12 w28 ∧ Below w8.heap.size w8 w28) := by
          have h12 := bthenY HB27.out hb28
          exact ⟨bthenY HB12.out.1 h12, h12, bthenY HB12.out.2.2.1 h12⟩
        clear KCO hb28 hxy
        by_cases hkn : inL n3 k = true
        · obtain ⟨K, rfl, hKn⟩ := inL_nat hkn
          have hki : (K : Int) < n3 := by omega
          have hK0 : ¬ (K : Int) < 0 := by omega
          have HKS : Hid (K < P.stmts.length) := by rw [HN.out.2.2] at hKn; exact hKn
          have HWR : Hid (ev3 = .nilIface ∧ IsInts w8 (.slice wa wn wc) (norm (changedL P L (P.stmts.getD K default))) ∧ (norm (changedL P L (P.stmts.getD K default))).length ≤ 10000) := by
            rcases HW8.out with ⟨K', hKK, hK2, q1, q2⟩ | ⟨q, -⟩
            · obtain rfl : K = K' := by omega
              exact ⟨q1, q2, Nat.le_trans (norm_length_le _) (changed_in HG.out.2.2 (mem_getDY default hK2)).2⟩
            · rw [← HN.out.2.2] at q
              rw [hkn] at q
              cases q
          have he3 : ev3 = .nilIface := HWR.out.1
          subst he3
          have KWR : Hid _ := refWrites_any P L HS.out HG.out.2.2 K HKS.out _ _ _ _ _ _ w28 (K5.out w28 HWT.out.1).2.2.2.2.1 (HLS.out.below HWT.out.2.1)
          obtain ⟨p0, p1, p2⟩ := (K5.out w28 HWT.out.1).2.2.1
          clear hkn hKn
          go_wp2_with fail
          refine Calls.mono KWR.out ?_
          rintro e w50 ⟨vv, rfl, hi50, hb50⟩
          have HB50 : Hid (Below w28.heap.size w28 w50) := hb50
          have KSM : Hid _ := sameInts_true _ (.slice wa wn wc) vv w50 (by have := HWR.out.2.2; omega) (HWR.out.2.1.below (bthenY HWT.out.2.2 hb50)) hi50
          obtain ⟨sva, svc, rfl⟩ := isInts_form hi50
          clear KWR hi50 hb50 p0 p1 p2
          go_wp2_with fail
          refine Calls.mono KSM.out ?_
          rintro e w51 ⟨rfl, hb51⟩
          have HBF : Hid (Below w.heap.size w w51) := (K5.out w51 (bthenY HWT.out.1 (bthenY HB50.out hb51))).2.2.2.2.2
          clear KSM hb51
          go_wp2_with fail
          go_ret
          exact ⟨rfl, HBF.out⟩
        · have HKN : Hid (inL P.stmts.length k = false) := by
            show _ = _
            rw [← HN.out.2.2]
            cases e : inL n3 k with
            | true => exact absurd e hkn
            | false => rfl
          have HWR : Hid (Value.slice wa wn wc = .slice none 0 0 ∧ ev3 = errB a) := by
            rcases HW8.out with ⟨K', hKK, hK2, -⟩ | ⟨-, q1, q2⟩
            · have := HKN.out
              rw [hKK, inL_of hK2] at this
              cases this
            · exact ⟨q1, q2⟩
          obtain ⟨hnw, he3⟩ := HWR.out
          injection hnw with q1 q2 q3
          subst q1 q2 q3 he3
          have KCD : Hid (Calls Tryz.prog 21 #[.iface 267 (.pointer (some (a 1))), .int .i64 2] w28 fun e w' => e = .returned (.bool true) ∧ Below w28.heap.size w28 w') := coded2_err a 1 2 w28 (by decide) (by decide) (K5.out w28 HWT.out.1).2.2.2.1
          obtain ⟨p0, p1, p2⟩ := (K5.out w28 HWT.out.1).2.2.1
          unfold errB
          by_cases hk0 : k < 0
          · clear hkn
            go_wp2_with fail
            refine KCD.out.mono ?_
            rintro e w50 ⟨rfl, hb50⟩
            have HBF : Hid (Below w.heap.size w w50) := (K5.out w50 (bthenY HWT.out.1 hb50)).2.2.2.2.2
            clear hb50 p0 p1 p2
            go_wp2_with fail
            go_ret
            exact ⟨rfl, HBF.out⟩
          · have hk1 : ¬ k < (n3 : Int) := fun q => hkn (by
              unfold inL
              rw [decide_eq_true (by omega), decide_eq_true q]; rfl)
            have hk2 : (n3 : Int) ≤ k := by omega
            clear hkn
            go_wp2_with fail
            refine KCD.out.mono ?_
            rintro e w50 ⟨rfl, hb50⟩
            have HBF : Hid (Below w.heap.size w w50) := (K5.out w50 (bthenY HWT.out.1 hb50)).2.2.2.2.2
            clear hb50 p0 p1 p2
            go_wp2_with fail
            go_ret
            exact ⟨rfl, HBF.out⟩
end Go.Proofs.YteekjigaicmohaaGreatDoor

/-
  CallsTell answers true at every program that reads as plain data.
-/
namespace Go.Proofs.YteekjigaicmohaaGreatDoor
open Go.RowKit Go.Extern.Stop Go.Stop Go.Extern

theorem callsTell_any (a : Nat → Addr) (P : ProgD) (v1 v2 v3 : Value) (x y k : Int) (w : World) (h : IsProg w v1 v2 v3 P) (hE : Errs w a) :
    Calls Tryz.prog 6 #[.agg #[v1, v2, v3], .int .i64 x, .int .i64 y, .int .i64 k] w fun e w' => e = .returned (.bool true) ∧ Below w.heap.size w w' := by
  cases e : checkE P with
  | none => exact callsTell_good a P v1 v2 v3 x y k w e h hE
  | some q => exact callsTell_bad a P v1 v2 v3 x y k w (by rw [e]; rfl) h hE
end Go.Proofs.YteekjigaicmohaaGreatDoor

/-
  CallsAlias answers true at every program that reads as plain data.
-/
import Derived.Test.YteekjigaicmohaaGreatDoorZZM
import Derived.Test.YteekjigaicmohaaGreatDoorHAM
import Derived.Test.YteekjigaicmohaaGreatDoorPZMM
import Derived.Deep.DeepCutAuto
import Derived.Laws.NewBlocks
namespace Go.Proofs.YteekjigaicmohaaGreatDoor
open Go.RowKit Go.Extern.Stop Go.Stop Go.Extern

theorem alias_iff (L : List (List Int)) (x y : Int) : aliasB L x y = true ↔ ∃ o, o ∈ setAt L x ∧ o ∈ setAt L y := by
  unfold aliasB
  rw [decide_eq_true_iff, List.length_pos_iff_exists_mem]
  constructor
  · rintro ⟨o, ho⟩
    obtain ⟨h1, h2⟩ := List.mem_filter.1 ho
    exact ⟨o, h1, List.contains_iff_mem.1 h2⟩
  · rintro ⟨o, h1, h2⟩
    exact ⟨o, List.mem_filter.2 ⟨h1, List.contains_iff_mem.2 h2⟩⟩
theorem alias_comm (L : List (List Int)) (x y : Int) : aliasB L x y = aliasB L y x := by
  rw [Bool.eq_iff_iff, alias_iff, alias_iff]
  constructor
  · rintro ⟨o, h1, h2⟩; exact ⟨o, h2, h1⟩
  · rintro ⟨o, h1, h2⟩; exact ⟨o, h2, h1⟩
theorem alias_self (L : List (List Int)) (x : Int) : aliasB L x x = decide (0 < (setAt L x).length) := by
  rw [Bool.eq_iff_iff, alias_iff, decide_eq_true_iff, List.length_pos_iff_exists_mem]
  constructor
  · rintro ⟨o, h1, -⟩; exact ⟨o, h1⟩
  · rintro ⟨o, h1⟩; exact ⟨o, h1, h1⟩
theorem LeastL.cl {P : ProgD} {L : List (List Int)} (h : LeastL P L) (hc : checkE P = none) : Cl P L := by
  obtain ⟨m, h1, rfl⟩ := h
  exact Cl.of (h1.closed hc)
theorem alias_copy {P : ProgD} {L : List (List Int)} (hcl : Cl P L) {k : Nat} (hk : k < P.stmts.length) (hkd : (P.stmts.getD k default).kind = kCopy) (hne : 0 < (setAt L (P.stmts.getD k default).y).length) : aliasB L (P.stmts.getD k default).x (P.stmts.getD k default).y = true := by
  rw [alias_iff]
  obtain ⟨o, ho⟩ := List.length_pos_iff_exists_mem.1 hne
  have hr : ruleD P k = ⟨kCopy, (P.stmts.getD k default).y, (P.stmts.getD k default).x, k, (P.stmts.getD k default).args⟩ := by
    unfold ruleD
    rw [if_neg (by rw [hkd]; decide), if_neg (by rw [hkd]; decide), if_neg (by rw [hkd]; decide), hkd]
  refine ⟨o, edge_of hcl (ruleD_mem P hk) (p := ((P.stmts.getD k default).y, (P.stmts.getD k default).x)) ?_ ho, ho⟩
  rw [hr]
  unfold followD copyD
  rw [if_pos rfl]
  exact List.mem_append_left _ (List.mem_singleton.2 rfl)
theorem AliasPost.inn {a : Nat → Addr} {P : ProgD} {x y : Int} {w w' : World} {e : Ending} {L : List (List Int)} (hc : checkE P = none) (hL : LeastL P L) (hx : inL L.length x = true) (hy : inL L.length y = true) (h : AliasPost a P x y w w' e) : e = .returned (.tuple #[.bool (aliasB L x y), .nilIface]) ∧ Below w.heap.size w w' := by
  obtain ⟨b, ev, rfl, hcs, hb⟩ := h
  refine ⟨?_, hb⟩
  rcases hcs with ⟨-, M, hM, hcs⟩ | ⟨q, -⟩
  · rw [← hL.uniq hM] at hcs
    rcases hcs with ⟨-, -, rfl, rfl⟩ | ⟨q, -⟩
    · rfl
    · rw [hx, hy] at q; cases q
  · rw [hc] at q; cases q
theorem AliasPost.out {a : Nat → Addr} {P : ProgD} {x y : Int} {w w' : World} {e : Ending} {L : List (List Int)} (hc : checkE P = none) (hL : LeastL P L) (hxy : (inL L.length x && inL L.length y) = false) (h : AliasPost a P x y w w' e) : e = .returned (.tuple #[.bool false, errB a]) ∧ Below w.heap.size w w' := by
  obtain ⟨b, ev, rfl, hcs, hb⟩ := h
  refine ⟨?_, hb⟩
  rcases hcs with ⟨-, M, hM, hcs⟩ | ⟨q, -⟩
  · rw [← hL.uniq hM] at hcs
    rcases hcs with ⟨h1, h2, -⟩ | ⟨-, rfl, rfl⟩
    · rw [h1, h2] at hxy; cases hxy
    · rfl
  · rw [hc] at q; cases q
theorem AliasPost.bad {a : Nat → Addr} {P : ProgD} {x y : Int} {w w' : World} {e : Ending} (hc : (checkE P).isNone = false) (h : AliasPost a P x y w w' e) : ∃ t p, e = .returned (.tuple #[.bool false, .iface t (.pointer (some p))]) ∧ Below w.heap.size w w' := by
  obtain ⟨b, ev, rfl, hcs, hb⟩ := h
  rcases hcs with ⟨q, -⟩ | ⟨-, rfl, ⟨t, p, rfl⟩, -⟩
  · rw [q] at hc; cases hc
  · exact ⟨t, p, rfl, hb⟩
theorem inL_of {n X : Nat} (h : X < n) : inL n (X : Int) = true := by
  unfold inL
  rw [decide_eq_true (by omega), decide_eq_true (by omega)]
  rfl
theorem bthenY {w0 w1 w2 : World} (h1 : Below w0.heap.size w0 w1) (h2 : Below w1.heap.size w1 w2) : Below w0.heap.size w0 w2 := h1.trans (h2.mono h1.size)
set_option maxRecDepth 100000 in
set_option maxHeartbeats 32000000 in
theorem callsAlias_any (a : Nat → Addr) (P : ProgD) (v1 v2 v3 : Value) (x y : Int) (w : World) (h : IsProg w v1 v2 v3 P) (hE : Errs5 w a) (h3 : Three w a) :
    Calls Tryz.prog 7 #[.agg #[v1, v2, v3], .int .i64 x, .int .i64 y] w fun e w' => e = .returned (.bool true) ∧ Below w.heap.size w w' := by
  have H : Hid (IsProg w v1 v2 v3 P ∧ Errs5 w a ∧ Three w a) := ⟨h, hE, h3⟩
  obtain ⟨⟨a1, c1, rfl, -, -⟩, ⟨a2, c2, rfl, -, -⟩, ⟨a3, c3, rfl, -, -⟩⟩ := h
  obtain ⟨n1, hn1⟩ : ∃ m, m = P.vars.length := ⟨_, rfl⟩
  obtain ⟨n2, hn2⟩ : ∃ m, m = P.funs.length := ⟨_, rfl⟩
  obtain ⟨n3, hn3⟩ : ∃ m, m = P.stmts.length := ⟨_, rfl⟩
  have HN : Hid (n1 = P.vars.length ∧ n2 = P.funs.length ∧ n3 = P.stmts.length) := ⟨hn1, hn2, hn3⟩
  rw [← hn1, ← hn2, ← hn3] at H ⊢
  clear hn1 hn2 hn3 hE h3
  obtain ⟨W, hW⟩ : ∃ W, W = w.alloc (.cells #[.slice a1 n1 c1, .slice a2 n2 c2, .slice a3 n3 c3] 26) := ⟨_, rfl⟩
  have hBW : Below w.heap.size w W := by rw [hW]; exact below1 w _
  have HBX : Hid (Box3 W w.heap.size (.slice a1 n1 c1) (.slice a2 n2 c2) (.slice a3 n3 c3)) := by
    show Box3 W _ _ _ _
    rw [hW]; exact box3_new w _ _ _ _
  have K1 : Hid (Calls Tryz.prog 28 #[] W fun e w' => e = .returned (.bool true) ∧ Below W.heap.size W w') := called_any a W (H.out.2.1.below hBW) (H.out.2.2.below hBW)
  rw [hW] at K1
  go_enter Tryz.func7, Tryz.ntmps7
  go_wp2_with fail
  refine K1.out.mono ?_
  rintro e w1 ⟨rfl, hB1⟩
  rw [← hW] at hB1
  clear K1 hW
  obtain ⟨p0, p1, p2⟩ := HBX.out.below hB1
  have hB1w : Below w.heap.size w w1 := hBW.trans (hB1.mono hBW.size)
  go_wp2_with fail
  refine (large_m 20 (by decide) P _ _ _ w1 (H.out.1.below hB1w)).mono ?_
  rintro e w2 ⟨r, rfl, hr, hB2⟩
  have hB2w : Below w.heap.size w w2 := hB1w.trans (hB2.mono hB1w.size)
  rcases hr with rfl | ⟨rfl, hs1, -, -⟩
  · go_wp2_with fail
    go_ret
    exact ⟨rfl, hB2w⟩
  have HS : Hid (SmallP P) := hs1
  have HX2 : Hid (Box3 w2 w.heap.size (.slice a1 n1 c1) (.slice a2 n2 c2) (.slice a3 n3 c3)) := HBX.out.below (bthenY hB1 hB2)
  clear hs1 p0 p1 p2
  obtain ⟨p0, p1, p2⟩ := HX2.out
  go_wp2_with fail
  refine (ownProgram_any P _ _ _ w2 HS.out (H.out.1.below hB2w)).mono ?_
  rintro e w4 ⟨u1, u2, u3, rfl, hq, hB4⟩
  have HQ : Hid (IsProg w4 u1 u2 u3 P ∧ Below w.heap.size w w4 ∧ Box3 w4 w.heap.size (.slice a1 n1 c1) (.slice a2 n2 c2) (.slice a3 n3 c3)) := ⟨hq, bthenY hB2w hB4, HX2.out.below hB4⟩
  obtain ⟨⟨b1, d1, rfl, -, -⟩, ⟨b2, d2, rfl, -, -⟩, ⟨b3, d3, rfl, -, -⟩⟩ := hq
  rw [← HN.out.1, ← HN.out.2.1, ← HN.out.2.2] at HQ ⊢
  clear p0 p1 p2 hB1 hB2 hB4 hB1w hB2w hBW HBX HX2
  go_upto_region 5 with fail
  obtain ⟨W5, hW5⟩ : ∃ W5, W5 = w4.alloc (.cells #[.slice b1 n1 d1, .slice b2 n2 d2, .slice b3 n3 d3] 26) := ⟨_, rfl⟩
  have hB45 : Below w4.heap.size w4 W5 := by rw [hW5]; exact below1 w4 _
  have hX5 : Box3 W5 w4.heap.size (.slice b1 n1 d1) (.slice b2 n2 d2) (.slice b3 n3 d3) := by rw [hW5]; exact box3_new w4 _ _ _ _
  rw [← hW5]
  clear hW5
  obtain ⟨qb, hqb⟩ : ∃ b, b = w4.heap.size := ⟨_, rfl⟩
  rw [← hqb] at hX5 ⊢
  clear hqb
  have K5 : Hid (∀ wx, Below W5.heap.size W5 wx → Box3 wx qb (.slice b1 n1 d1) (.slice b2 n2 d2) (.slice b3 n3 d3) ∧ IsProg wx (.slice b1 n1 d1) (.slice b2 n2 d2) (.slice b3 n3 d3) P ∧ Box3 wx w.heap.size (.slice a1 n1 c1) (.slice a2 n2 c2) (.slice a3 n3 c3) ∧ Errs5 wx a ∧ Three wx a ∧ IsProg wx (.slice a1 n1 c1) (.slice a2 n2 c2) (.slice a3 n3 c3) P ∧ Below w.heap.size w wx) := fun wx hx => by
    have h4 : Below w4.heap.size w4 wx := bthenY hB45 hx
    have hw : Below w.heap.size w wx := bthenY HQ.out.2.1 h4
    exact ⟨hX5.below hx, HQ.out.1.below h4, HQ.out.2.2.below h4, H.out.2.1.below hw, H.out.2.2.below hw, H.out.1.below hw, hw⟩
  have KA : Hid (∀ wx x y, Below W5.heap.size W5 wx → Calls Tryz.prog 30 #[.agg #[.slice b1 n1 d1, .slice b2 n2 d2, .slice b3 n3 d3], .int .i64 x, .int .i64 y] wx fun e w' => AliasPost a P x y wx w' e) := fun wx x y hx => by
    obtain ⟨-, r1, -, r2, r3, -⟩ := K5.out wx hx
    exact alias_any a P _ _ _ x y wx HS.out r1 r2 r3
  clear hB45 hX5 HQ
  obtain ⟨⟨y0, y1, y2⟩, -⟩ := K5.out W5 (Below.refl _ _)
  have KA5 : Hid _ := KA.out W5 x y (Below.refl _ _)
  go_wp2_with fail
  refine Calls.mono KA5.out ?_
  rintro e w6 hp
  clear KA5
  have hb6 : Below W5.heap.size W5 w6 := by obtain ⟨_, _, _, _, q⟩ := hp; exact q
  obtain ⟨⟨z0, z1, z2⟩, -⟩ := K5.out w6 hb6
  have KA6 : Hid _ := KA.out w6 y x hb6
  by_cases hcb : (checkE P).isNone = false
  · obtain ⟨t, p, rfl, -⟩ := hp.bad hcb
    have HC : Hid ((checkE P).isNone = false) := hcb
    clear hcb hp y0 y1 y2
    go_wp2_with fail
    refine Calls.mono KA6.out ?_
    rintro e w7 hp7
    obtain ⟨t', p', rfl, hb7⟩ := hp7.bad HC.out
    have HBF : Hid (Below w.heap.size w w7) := (K5.out w7 (bthenY hb6 hb7)).2.2.2.2.2.2
    clear hp7 hb7 KA6 z0 z1 z2
    go_wp2_with fail
    go_ret
    exact ⟨rfl, HBF.out⟩
  have hck : checkE P = none := by
    cases e : checkE P with
    | none => rfl
    | some q => rw [e] at hcb; exact absurd rfl hcb
  have HCK : Hid (checkE P = none) := hck
  obtain ⟨L, hL⟩ : ∃ L, LeastL P L := by
    obtain ⟨_, _, -, hcs, -⟩ := hp
    rcases hcs with ⟨-, L, hL, -⟩ | ⟨q, -⟩
    · exact ⟨L, hL⟩
    · exact absurd q hcb
  have HL : Hid (LeastL P L) := hL
  clear hck hcb y0 y1 y2
  by_cases hxy : (inL L.length x && inL L.length y) = false
  · obtain ⟨rfl, -⟩ := hp.out HCK.out hL hxy
    have HXY : Hid ((inL L.length y && inL L.length x) = false) := by
      show _ = _
      rw [Bool.and_comm]; exact hxy
    clear hxy hp hL
    unfold errB
    go_wp2_with fail
    refine Calls.mono KA6.out ?_
    rintro e w7 hp7
    obtain ⟨rfl, hb7⟩ := hp7.out HCK.out HL.out HXY.out
    have HBF : Hid (Below w.heap.size w w7) := (K5.out w7 (bthenY hb6 hb7)).2.2.2.2.2.2
    clear hp7 hb7 KA6 z0 z1 z2
    unfold errB
    go_wp2_with fail
    go_ret
    exact ⟨rfl, HBF.out⟩
  have hx : inL L.length x = true := by
    cases e : inL L.length x with
    | true => rfl
    | false => rw [e] at hxy; exact absurd rfl hxy
  have hy : inL L.length y = true := by
    cases e : inL L.length y with
    | true => rfl
    | false => rw [e, Bool.and_false] at hxy; exact absurd rfl hxy
  obtain ⟨rfl, -⟩ := hp.inn HCK.out hL hx hy
  obtain ⟨X, rfl, hXn⟩ := inL_nat hx
  have HXY : Hid (inL L.length (X : Int) = true ∧ inL L.length y = true ∧ X < L.length) := ⟨hx, hy, hXn⟩
  obtain ⟨A, hA⟩ : ∃ A, A = aliasB L (X : Int) y := ⟨_, rfl⟩
  rw [← hA]
  have HA : Hid (A = aliasB L (X : Int) y) := hA
  clear hxy hp hL hx hy hXn hA
  go_wp2_with fail
  refine Calls.mono KA6.out ?_
  rintro e w7 hp7
  obtain ⟨rfl, hb7⟩ := hp7.inn HCK.out HL.out HXY.out.2.1 HXY.out.1
  rw [alias_comm, ← HA.out]
  have hb7' := bthenY hb6 hb7
  obtain ⟨⟨y0, y1, y2⟩, -⟩ := K5.out w7 hb7'
  have KA7 : Hid _ := KA.out w7 (X : Int) (X : Int) hb7'
  clear hp7 hb7 KA6 z0 z1 z2 hb6
  go_wp2_with fail
  refine Calls.mono KA7.out ?_
  rintro e w8 hp8
  obtain ⟨rfl, hb8⟩ := hp8.inn HCK.out HL.out HXY.out.1 HXY.out.1
  have hb8' := bthenY hb7' hb8
  obtain ⟨⟨z0, z1, z2⟩, -⟩ := K5.out w8 hb8'
  have KL : Hid _ := leastY_any a P _ _ _ w8 HS.out (K5.out w8 hb8').2.1 (K5.out w8 hb8').2.2.2.1 (K5.out w8 hb8').2.2.2.2.1
  rw [alias_self]
  have HSX : Hid (setAt L (X : Int) = L.getD X []) := by show _ = _; unfold setAt; rw [Int.toNat_natCast]
  rw [HSX.out]
  obtain ⟨lx, hlx⟩ : ∃ l, l = (L.getD X []).length := ⟨_, rfl⟩
  rw [← hlx]
  have HLX : Hid (lx = (L.getD X []).length) := hlx
  clear hp8 hb8 KA7 y0 y1 y2 hb7' hlx
  go_wp2_with fail
  refine Calls.mono KL.out ?_
  rintro e w9 ⟨va, vn, vc, ev, kk, rfl, hcs, hb9⟩
  rcases hcs with ⟨-, rfl, M, hM, rfl, hi⟩ | ⟨q, -⟩
  case inr => rw [HCK.out] at q; cases q
  obtain rfl := HL.out.uniq hM
  have hb9' := bthenY hb8' hb9
  have HI : Hid (IsSets w9 (.slice va L.length vc) L ∧ Below W5.heap.size W5 w9 ∧ Cl P L ∧ Good P L) := ⟨hi, hb9', hM.cl HCK.out, hM.good HCK.out⟩
  obtain ⟨va', vc', e', hr⟩ := hi
  cases e'
  obtain ⟨b, o, ux, rfl, x1, x2⟩ := hr X HXY.out.2.2
  obtain ⟨ua, uc, rfl⟩ := isInts_form x2
  rw [← HLX.out] at x1
  obtain ⟨n, hn⟩ : ∃ n, n = L.length := ⟨_, rfl⟩
  rw [← hn] at HI ⊢
  have HNL : Hid (n = L.length) := hn
  have hXi : (X : Int) < n := by have := HXY.out.2.2; omega
  have HR : Hid (∀ wx j, Below w9.heap.size w9 wx → j < n → ∃ ra rc, wx.cell? ⟨b, o + j, none⟩ = some (.slice ra (setAt L (j : Int)).length rc)) := fun wx j hx hj => by
    obtain ⟨b', o', u', e1, e2, e3⟩ := hr j (by rw [← hn]; exact hj)
    cases e1
    obtain ⟨ra, rc, rfl⟩ := isInts_form e3
    refine ⟨ra, rc, ?_⟩
    rw [show setAt L (j : Int) = L.getD j [] by unfold setAt; rw [Int.toNat_natCast]]
    exact cell_keep hx e2
  clear hM hr x2 hb8' hb9 KL z0 z1 z2 hn
  go_wp2_with fail
  clear x1
  have hn3 : n3 ≤ 80 := by have := HI.out.2.2.2.len; have := HN.out.2.2; omega
  go_loopw [16] (fun t wr => ∃ k : Nat, k ≤ n3 ∧ t = .int .i64 k ∧ Below w9.heap.size w9 wr) (fun t _ => (n3 - intOf t).toNat)
  case atStart => exact ⟨0, Nat.zero_le _, rfl, Below.refl _ _⟩
  case round =>
    obtain ⟨k, hk, rfl, hwr⟩ := hrel
    have hwr5 := bthenY HI.out.2.1 hwr
    obtain ⟨⟨y0, y1, y2⟩, -, ⟨p0, p1, p2⟩, -⟩ := K5.out wr hwr5
    by_cases hlt : k < n3
    · have hkS : k < P.stmts.length := by rw [← HN.out.2.2]; exact hlt
      obtain ⟨a3', c3', e3, -, hst⟩ := (K5.out wr hwr5).2.2.2.2.2.1.stmts
      injection e3 with q1 q2 q3
      subst q1 q3
      clear q2
      obtain ⟨sb, so, rfl, pv, s0, s1, s2, s3, ⟨-, aa, ac, rfl, -⟩⟩ := hst k hkS
      have hG := HI.out.2.2.2
      have hln := hG.len
      obtain ⟨⟨SX, hSX, hSXn⟩, hSY, -⟩ := hG.stm (mem_getDY default hkS)
      have hki : (k : Int) < n3 := by omega
      obtain ⟨kd, hkd⟩ : ∃ z, z = S (P.stmts.getD k default).kind := ⟨_, rfl⟩
      obtain ⟨na, hna⟩ : ∃ z, z = (P.stmts.getD k default).args.length := ⟨_, rfl⟩
      obtain ⟨sy, hsy⟩ : ∃ z, z = (P.stmts.getD k default).y := ⟨_, rfl⟩
      rw [← hkd] at s0
      rw [hSX] at s1
      rw [← hsy] at s2
      rw [← hna] at s3
      have HKD : Hid (kd.toList = (P.stmts.getD k default).kind) := by show _ = _; rw [hkd, S_toList]
      have HSX : Hid ((P.stmts.getD k default).x = (SX : Int) ∧ SX < n ∧ sy = (P.stmts.getD k default).y ∧ k < P.stmts.length) := ⟨hSX, by rw [HNL.out]; omega, hsy, hkS⟩
      have HSY : Hid ((P.stmts.getD k default).kind = kCopy → ∃ Y : Nat, sy = (Y : Int) ∧ Y < n) := fun e => by
        obtain ⟨Y, h1, h2⟩ := hSY (Or.inr (Or.inr e))
        exact ⟨Y, by rw [hsy, h1], by rw [HNL.out]; omega⟩
      have hba := below1 wr (stmBox kd (SX : Int) sy (.slice aa na ac))
      have hwa : Below w9.heap.size w9 (wr.alloc (stmBox kd (SX : Int) sy (.slice aa na ac))) := hwr.alloc hwr.size _
      clear hst hkd hna hsy hSX hSY hG hln hkS hSXn
      by_cases hkk : (P.stmts.getD k default).kind = kCopy
      · obtain ⟨Y, rfl, hYn⟩ := HSY.out hkk
        have g1 : (kd.toList == [99, 111, 112, 121]) = true := by rw [HKD.out, hkk]; decide
        obtain ⟨ra, rc, ey⟩ := HR.out _ Y hwa hYn
        have hYi : (Y : Int) < n := by omega
        have HCP : Hid (0 < (setAt L (Y : Int)).length → aliasB L (SX : Int) (Y : Int) = true) := fun hne => by
          have := alias_copy HI.out.2.2.1 HSX.out.2.2.2 hkk (by rw [← HSX.out.2.2.1]; exact hne)
          rw [HSX.out.1, ← HSX.out.2.2.1] at this
          exact this
        obtain ⟨ly, hly⟩ : ∃ l, l = (setAt L (Y : Int)).length := ⟨_, rfl⟩
        rw [← hly] at ey HCP
        clear hkk hly
        by_cases hl0 : (0 : Int) < ly
        · have HAL : Hid (aliasB L (SX : Int) (Y : Int) = true) := HCP.out (by omega)
          have HIN : Hid (inL L.length (SX : Int) = true ∧ inL L.length (Y : Int) = true) := by
            have h1 := HSX.out.2.1
            have h2 := HNL.out
            have h3 : Y < L.length := by omega
            have h4 : SX < L.length := by omega
            exact ⟨inL_of h4, inL_of h3⟩
          have hwa5 := bthenY HI.out.2.1 hwa
          obtain ⟨⟨t0, t1, t2⟩, -⟩ := K5.out _ hwa5
          have KC : Hid _ := KA.out _ (SX : Int) (Y : Int) hwa5
          go_wp2_with fail
          refine Calls.mono KC.out ?_
          rintro e w12 hp12
          obtain ⟨rfl, hb12⟩ := hp12.inn HCK.out HL.out HIN.out.1 HIN.out.2
          rw [HAL.out]
          have hb12' := bthenY hwa hb12
          clear hp12 hb12 KC t0 t1 t2 y0 y1 y2 p0 p1 p2 s0 s1 s2 s3 ey hba hwa hwa5
          go_wp2_with fail
          go_roundw
          case rel => exact ⟨k + 1, hlt, by go_num, hb12'⟩
          case measure => simp [intOf]; omega
        · go_wp2_with fail
          go_roundw
          case rel => exact ⟨k + 1, hlt, by go_num, hwa⟩
          case measure => simp [intOf]; omega
      · have g1 : (kd.toList == [99, 111, 112, 121]) = false := by rw [HKD.out]; exact beq_eq_false_iff_ne.2 hkk
        clear hkk
        go_wp2_with fail
        go_roundw
        case rel => exact ⟨k + 1, hlt, by go_num, hwa⟩
        case measure => simp [intOf]; omega
    · have HBF : Hid (Below w.heap.size w wr) := (K5.out wr hwr5).2.2.2.2.2.2
      clear hwr hwr5
      go_wp2_with fail
      go_ret
      exact ⟨rfl, HBF.out⟩
end Go.Proofs.YteekjigaicmohaaGreatDoor

/-
  SolveFix answers true at every program that reads as plain data.
-/
import Derived.Test.YtglonlpfnllocaaGreatDoorWIM
import Derived.Test.YtglonlpfnllocaaGreatDoorYG0M
import Derived.Test.YtglonlpfnllocaaGreatDoorPZMM
import Derived.Deep.DeepCutAuto
import Derived.Laws.NewBlocks
import Derived.Deep.RegionHeld3
namespace Go.Proofs.YtglonlpfnllocaaGreatDoor
open Go.RowKit Go.Extern.Stop Go.Stop Go.Extern Go.Maps

theorem totD_drop (L : List (List Int)) (k : Nat) (hk : k < L.length) : totD (L.drop k) = (L.getD k []).length + totD (L.drop (k + 1)) := by
  unfold totD
  rw [List.drop_eq_getElem_cons hk, List.map_cons, List.sum_cons]
  simp [List.getD, hk]
theorem totD_drop_le (L : List (List Int)) (k : Nat) : totD (L.drop k) ≤ totD L := by
  have h : totD L = totD (L.take k) + totD (L.drop k) := by
    unfold totD
    rw [← List.sum_append, ← List.map_append, List.take_append_drop]
  omega
theorem bthenW {w0 w1 w2 : World} (h1 : Below w0.heap.size w0 w1) (h2 : Below w1.heap.size w1 w2) : Below w0.heap.size w0 w2 := h1.trans (h2.mono h1.size)
theorem keep1W {w w' : World} {x : Addr} {v : Value} (h : w.cell? x = some v) (hb : Below w.heap.size w w') : Below w.heap.size w w' ∧ w'.cell? x = some v := ⟨hb, cell_keep hb h⟩
set_option maxRecDepth 100000 in
set_option maxHeartbeats 32000000 in
theorem solveFix_any (a : Nat → Addr) (P : ProgD) (v1 v2 v3 : Value) (w : World) (h : IsProg w v1 v2 v3 P) (hE : Errs5 w a) (h3 : Three w a) :
    Calls Tryz.prog 3 #[.agg #[v1, v2, v3]] w fun e w' => e = .returned (.bool true) ∧ Below w.heap.size w w' := by
  have H : Hid (IsProg w v1 v2 v3 P ∧ Errs5 w a ∧ Three w a) := ⟨h, hE, h3⟩
  obtain ⟨⟨a1, c1, rfl, -, -⟩, ⟨a2, c2, rfl, -, -⟩, ⟨a3, c3, rfl, -, -⟩⟩ := h
  obtain ⟨n1, hn1⟩ : ∃ m, m = P.vars.length := ⟨_, rfl⟩
  obtain ⟨n2, hn2⟩ : ∃ m, m = P.funs.length := ⟨_, rfl⟩
  obtain ⟨n3, hn3⟩ : ∃ m, m = P.stmts.length := ⟨_, rfl⟩
  have HN : Hid (n1 = P.vars.length ∧ n2 = P.funs.length ∧ n3 = P.stmts.length) := ⟨hn1, hn2, hn3⟩
  rw [← hn1, ← hn2, ← hn3] at H ⊢
  clear hn1 hn2 hn3 hE h3
  obtain ⟨W, hW⟩ : ∃ W, W = w.alloc (.cells #[.slice a1 n1 c1, .slice a2 n2 c2, .slice a3 n3 c3] 26) := ⟨_, rfl⟩
  have hBW : Below w.heap.size w W := by rw [hW]; exact below1 w _
  have HBX : Hid (Box3 W w.heap.size (.slice a1 n1 c1) (.slice a2 n2 c2) (.slice a3 n3 c3)) := by
    show Box3 W _ _ _ _
    rw [hW]; exact box3_new w _ _ _ _
  have K1 : Hid (Calls Tryz.prog 6 #[] W fun e w' => e = .returned (.bool true) ∧ Below W.heap.size W w') := solved_any a W (H.out.2.1.below hBW)
  rw [hW] at K1
  go_enter Tryz.func3, Tryz.ntmps3
  go_wp2_with fail
  refine K1.out.mono ?_
  rintro e w1 ⟨rfl, hB1⟩
  rw [← hW] at hB1
  clear K1 hW
  obtain ⟨p0, p1, p2⟩ := HBX.out.below hB1
  have hB1w : Below w.heap.size w w1 := hBW.trans (hB1.mono hBW.size)
  go_wp2_with fail
  refine (large_m 25 (by decide) P _ _ _ w1 (H.out.1.below hB1w)).mono ?_
  rintro e w2 ⟨r, rfl, hr, hB2⟩
  have hB2w : Below w.heap.size w w2 := hB1w.trans (hB2.mono hB1w.size)
  rcases hr with rfl | ⟨rfl, hs1, -, -⟩
  · go_wp2_with fail
    go_ret
    exact ⟨rfl, hB2w⟩
  have HS : Hid (SmallP P) := hs1
  have HX2 : Hid (Box3 w2 w.heap.size (.slice a1 n1 c1) (.slice a2 n2 c2) (.slice a3 n3 c3)) := HBX.out.below (bthenW hB1 hB2)
  clear hs1 p0 p1 p2
  obtain ⟨p0, p1, p2⟩ := HX2.out
  go_wp2_with fail
  refine (ownProgram_any P _ _ _ w2 HS.out (H.out.1.below hB2w)).mono ?_
  rintro e w4 ⟨u1, u2, u3, rfl, hq, hB4⟩
  have HQ : Hid (Below w.heap.size w w4 ∧ Box3 w4 w.heap.size (.slice a1 n1 c1) (.slice a2 n2 c2) (.slice a3 n3 c3)) := ⟨bthenW hB2w hB4, HX2.out.below hB4⟩
  have KN : Hid _ := newA_any a P u1 u2 u3 w4 HS.out hq (H.out.2.1.below HQ.out.1)
  obtain ⟨⟨b1, d1, rfl, -, -⟩, ⟨b2, d2, rfl, -, -⟩, ⟨b3, d3, rfl, -, -⟩⟩ := hq
  rw [← HN.out.1, ← HN.out.2.1, ← HN.out.2.2] at KN ⊢
  clear p0 p1 p2 hB1 hB2 hB4 hB1w hB2w hBW HBX HX2
  go_wp2_with fail
  refine Calls.mono KN.out ?_
  rintro e w5 hcs
  clear KN
  rcases hcs with ⟨t, x, rfl, -, -, hb5⟩ | ⟨hck, B, sb, m, rfl, hsA⟩
  · have HBF : Hid (Below w.heap.size w w5) := bthenW HQ.out.1 hb5
    clear hb5
    go_wp2_with fail
    go_ret
    exact ⟨rfl, HBF.out⟩
  obtain ⟨j, hj⟩ := fixK_ex hck
  have KR : Hid _ := runA_any hck HS.out hj hsA
  obtain ⟨L, hL⟩ : ∃ L, L = iterD P j := ⟨_, rfl⟩
  have HL : Hid (checkE P = none ∧ LeastL P L ∧ L.length ≤ 300 ∧ (∀ j, j < L.length → (L.getD j []).length ≤ 200) ∧ totD L ≤ 60000) := by
    have hok := setsOk_iter hck j
    obtain ⟨s1, s2, s3⟩ := right_small hck
    have hpl := places_le P P.stmts.length
    have h1 := hok.len
    have h2 := hok.short hck
    have h3 := totD_le (iterD P j) 200 h2
    have h4 : (iterD P j).length * 200 ≤ 300 * 200 := Nat.mul_le_mul (by omega) (Nat.le_refl _)
    rw [hL]
    exact ⟨hck, ⟨j, hj, rfl⟩, by omega, h2, by omega⟩
  rw [← hL] at KR
  clear hck hj hL hsA
  go_wp2_with fail
  refine Calls.mono KR.out ?_
  rintro e w6 ⟨m6, s6, rfl, hd6, hh6, hm6, ho6, hb6⟩
  have H6 : Hid (Below w4.heap.size w4 w6 ∧ SolM w6 B sb P.funs m6 s6 ∧ s6.due = [] ∧ s6.has = L) := ⟨hb6, hm6, hd6, hh6⟩
  obtain ⟨T, hT⟩ : ∃ T, T = totD L := ⟨_, rfl⟩
  rw [← hT]
  have HT : Hid (T = totD L) := hT
  obtain ⟨p0, p1, p2⟩ := HQ.out.2.below hb6
  have hB6w : Below w.heap.size w w6 := bthenW HQ.out.1 hb6
  clear hd6 hh6 hm6 ho6 hb6 KR hT
  go_wp2_with fail
  refine (ownProgram_any P _ _ _ w6 HS.out (H.out.1.below hB6w)).mono ?_
  rintro e w7 ⟨u1, u2, u3, rfl, hq, hB7⟩
  have hB7w : Below w.heap.size w w7 := bthenW hB6w hB7
  have KL : Hid _ := leastY_any a P u1 u2 u3 w7 HS.out hq (H.out.2.1.below hB7w) (H.out.2.2.below hB7w)
  have H7 : Hid (Below w6.heap.size w6 w7 ∧ Below w.heap.size w w7) := ⟨hB7, hB7w⟩
  obtain ⟨⟨e1, f1, rfl, -, -⟩, ⟨e2, f2, rfl, -, -⟩, ⟨e3, f3, rfl, -, -⟩⟩ := hq
  rw [← HN.out.1, ← HN.out.2.1, ← HN.out.2.2] at KL ⊢
  clear p0 p1 p2 hB7 hB7w hB6w
  go_wp2_with fail
  refine Calls.mono KL.out ?_
  rintro e w8 ⟨va, vn, vc, ev, kk, rfl, hcs, hb8⟩
  clear KL
  rcases hcs with ⟨-, rfl, M, hM, rfl, hi⟩ | ⟨q, -⟩
  case inr => rw [HL.out.1] at q; cases q
  obtain rfl := HL.out.2.1.uniq hM
  have HI : Hid (IsSets w8 (.slice va L.length vc) L ∧ Below w.heap.size w w8 ∧ SolM w8 B sb P.funs m6 s6) := ⟨hi, bthenW H7.out.2 hb8, (H6.out.2.1.below H7.out.1).below hb8⟩
  obtain ⟨n, hn⟩ : ∃ n, n = L.length := ⟨_, rfl⟩
  rw [← hn] at HI ⊢
  have HNL : Hid (n = L.length) := hn
  have hn300 : n ≤ 300 := by rw [hn]; exact HL.out.2.2.1
  clear hM hi hb8 hn
  go_wp2_with fail
  go_loopw [6, 9] (fun t6 t9 wr => ∃ k : Nat, k ≤ n ∧ t6 = .int .i64 ((totD (L.drop k) : Nat) : Int) ∧ t9 = .int .i64 k ∧ Below w8.heap.size w8 wr) (fun _ t9 _ => (n - intOf t9).toNat)
  case atStart => exact ⟨0, Nat.zero_le _, by rw [List.drop_zero, HT.out], rfl, Below.refl _ _⟩
  case round =>
    obtain ⟨k, hk, rfl, rfl, hwr⟩ := hrel
    by_cases hlt : k < n
    · have hki : (k : Int) < n := by omega
      have hkL : k < L.length := by rw [← HNL.out]; exact hlt
      obtain ⟨va', vc', e', hr⟩ := HI.out.1
      injection e' with q1 q2 q3
      subst q1 q3
      clear q2
      obtain ⟨b, o, ux, rfl, x1, x2⟩ := hr k hkL
      obtain ⟨ua, uc, rfl⟩ := isInts_form x2
      obtain ⟨ln, hln⟩ : ∃ l, l = (L.getD k []).length := ⟨_, rfl⟩
      have hl2 := HL.out.2.2.2.1 k hkL
      have htd := totD_drop L k hkL
      have htl := totD_drop_le L k
      have ht6 := HL.out.2.2.2.2
      obtain ⟨T1, hT1⟩ : ∃ t, t = totD (L.drop k) := ⟨_, rfl⟩
      obtain ⟨T2, hT2⟩ : ∃ t, t = totD (L.drop (k + 1)) := ⟨_, rfl⟩
      rw [← hT1, ← hT2, ← hln] at htd
      rw [← hT1] at htl ⊢
      have HT2 : Hid (T2 = totD (L.drop (k + 1))) := hT2
      have hnum : (T1 : Int) - ln = T2 ∧ T1 ≤ 60000 ∧ ln ≤ 200 := by omega
      replace x1 := cell_keep hwr x1
      replace x2 := x2.below hwr
      rw [← hln] at x1 x2
      have KH : Hid (∀ wx, Below wr.heap.size wr wx → Calls Tryz.prog 13 #[.pointer (some ⟨sb, 0, none⟩), .int .i64 (k : Int)] wx fun e w' => ∃ xa xc, e = .returned (.slice xa ln xc) ∧ IsInts w' (.slice xa ln xc) (L.getD k []) ∧ Below wr.heap.size wr w') := fun wx hx => by
        have hbw := bthenW hwr hx
        refine (hasS_any (HI.out.2.2.below hbw) (k : Int) (fun j => ?_)).mono ?_
        · rw [H6.out.2.2.2]
          by_cases hjl : j < L.length
          · have := HL.out.2.2.2.1 j hjl
            omega
          · rw [getD_none L j hjl]; exact Nat.zero_le _
        · rintro e w' ⟨v, rfl, hv, hb⟩
          rw [if_pos (by omega), H6.out.2.2.2] at hv
          have e1 : setAt L (k : Int) = L.getD k [] := by unfold setAt; rw [Int.toNat_natCast]
          rw [e1] at hv
          obtain ⟨xa, xc, rfl⟩ := isInts_form hv
          rw [← hln] at hv ⊢
          exact ⟨xa, xc, rfl, hv, bthenW hx hb⟩
      have KI : Hid (∀ wx xa xc, Below wr.heap.size wr wx → IsInts wx (.slice xa ln xc) (L.getD k []) → Calls Tryz.prog 12 #[.slice xa ln xc, .slice ua ln uc] wx fun e w' => e = .returned (.bool true) ∧ Below wr.heap.size wr w') := fun wx xa xc hx hv => by
        refine (sameInts_true (L.getD k []) _ _ wx (by omega) hv (x2.below hx)).mono ?_
        rintro e w' ⟨rfl, hb⟩
        exact ⟨rfl, bthenW hx hb⟩
      have HW : Hid (Below w8.heap.size w8 wr) := hwr
      clear hr hkL x2 hln hl2 htd htl ht6 hT1 hT2 hwr
      go_upto_region 14 with fail
      go_region_held3 (fun wx => Below wr.heap.size wr wx ∧ wx.cell? ⟨b, o + k, none⟩ = some (.slice ua ln uc))
        ((go_split_ands; refine keep1W x1 ?_; repeat (with_reducible first | assumption | exact Below.refl _ _ | refine Below.drew ?_)))
        (first
          | (go_at_call 13; refine (KH.out _ ?_).mono ?_; (go_split_ands; assumption); rintro e w9 ⟨xa, xc, rfl, hv9, hb9⟩)
          | (go_at_call 12; refine (KI.out _ _ _ ?_ ?_).mono ?_; (go_split_ands; assumption); (first | exact hv9 | exact hv9.below (Below.refl _ _).drew); rintro e w10 ⟨rfl, hb10⟩))
      all_goals
        replace x1 := cell_keep hb10 x1
        have HB10 : Hid (Below wr.heap.size wr w10) := hb10
        clear hb9 hv9 hb10 KH KI
        go_wp2_with fail
        go_roundw
        case rel => exact ⟨k + 1, hlt, by rw [← HT2.out], by go_num, bthenW HW.out HB10.out⟩
        case measure => simp [intOf]; omega
    · have hkn : k = n := by omega
      subst hkn
      have KD : Hid (Calls Tryz.prog 14 #[.pointer (some ⟨sb, 0, none⟩)] wr fun e w' => e = .returned (.bool true) ∧ w' = wr) := by
        have := doneS_any (HI.out.2.2.below hwr)
        rw [decide_eq_true H6.out.2.2.1] at this
        exact this
      have HBF : Hid (Below w.heap.size w wr) := bthenW HI.out.2.1 hwr
      have e0 : totD (L.drop k) = 0 := by rw [HNL.out, List.drop_length]; rfl
      rw [e0]
      clear hwr e0
      go_wp2_with fail
      refine KD.out.mono ?_
      rintro e w9 ⟨rfl, rfl⟩
      clear KD
      go_wp2_with fail
      go_ret
      exact ⟨rfl, HBF.out⟩
end Go.Proofs.YtglonlpfnllocaaGreatDoor

/-
  The document's IsClosed, by a contract.
-/
import Derived.Test.YtfajpkdpnpdfkaaGreatDoorXGM
import Derived.Test.YtfajpkdpnpdfkaaGreatDoorXDM
import Derived.BigQuiet
namespace Go.Proofs.YtfajpkdpnpdfkaaGreatDoor
open Go.RowKit Go.Extern.Stop Go.Stop Go.Extern

theorem edgeSet_ref {P : ProgD} {hs : List (List Int)} (hc : checkE P = none) (h : SetsOk P hs) : EdgeSet (foundD P hs) (refEdges P hs hs.length) := ⟨refEdges_up P hs hs.length, refEdges_mem hc h⟩
set_option maxRecDepth 100000 in
set_option maxHeartbeats 16000000 in
theorem refIsClosed_any (P : ProgD) (v1 v2 v3 hv : Value) (hs : List (List Int)) (w : World) (hS : SmallP P) (hc : checkE P = none) (h : IsProg w v1 v2 v3 P) (hH : IsSets w hv hs) (hok : SetsOk P hs) :
    Calls Tryz.prog 21 #[.agg #[v1, v2, v3], hv] w fun e w' => e = .returned (.bool (closedB P hs)) ∧ Below w.heap.size w w' := by
  have H : Hid (IsProg w v1 v2 v3 P ∧ IsSets w hv hs ∧ SetsOk P hs ∧ SmallP P ∧ checkE P = none) := ⟨h, hH, hok, hS, hc⟩
  obtain ⟨⟨a1, c1, rfl, -, -⟩, ⟨a2, c2, rfl, -, -⟩, ⟨a3, c3, rfl, -, -⟩⟩ := h
  obtain ⟨ha, hcc, rfl, -⟩ := hH
  obtain ⟨n1, hn1⟩ : ∃ m, m = P.vars.length := ⟨_, rfl⟩
  obtain ⟨n2, hn2⟩ : ∃ m, m = P.funs.length := ⟨_, rfl⟩
  obtain ⟨n3, hn3⟩ : ∃ m, m = P.stmts.length := ⟨_, rfl⟩
  obtain ⟨n, hnn⟩ : ∃ m, m = hs.length := ⟨_, rfl⟩
  obtain ⟨es, hes⟩ : ∃ z, z = refEdges P hs hs.length := ⟨_, rfl⟩
  obtain ⟨R, hR⟩ : ∃ z, z = closedB P hs := ⟨_, rfl⟩
  have HN : Hid (n1 = P.vars.length ∧ n2 = P.funs.length ∧ n3 = P.stmts.length ∧ n = hs.length ∧ es = refEdges P hs hs.length ∧ R = (!(rulesD P).any (lackR hs) && !es.any (lackE hs))) := by
    refine ⟨hn1, hn2, hn3, hnn, hes, ?_⟩
    rw [hR, closedB_lack, hes, lackE_any hs (edgeSet_ref hc hok)]
  have hn3l : n3 ≤ 80 := by rw [hn3]; exact (right_small hc).1
  have hnl : n ≤ 200 := by
    obtain ⟨s1, s2, s3⟩ := right_small hc
    have hpl := places_le P P.stmts.length
    have := hok.len
    omega
  rw [← hn1, ← hn2, ← hn3] at H ⊢
  rw [← hnn] at H ⊢
  rw [← hR]
  have KH : Hid (∀ wx k x, k < n → Below w.heap.size w wx → ∃ b o xa xn xc, ha = some ⟨b, o, none⟩ ∧ wx.cell? ⟨b, o + k, none⟩ = some (.slice xa xn xc) ∧ (∀ m, Calls Tryz.prog 41 #[.slice xa xn xc, .int .i64 x] (wx.drewN m) fun e w' => e = .returned (.bool ((setAt hs (k : Int)).contains x)) ∧ w' = wx.drewN m) ∧ IsInts wx (.slice xa xn xc) (setAt hs (k : Int)) ∧ (setAt hs (k : Int)).length ≤ 1000000) := fun wx k x hk hb => by
    obtain ⟨a', c', e', q⟩ := H.out.2.1.below hb
    injection e' with e1 e2 e3
    obtain ⟨b, o, xv, q1, q2, q3⟩ := q k (by rw [← HN.out.2.2.2.1]; exact hk)
    obtain ⟨xa, xc, rfl⟩ := isInts_form q3
    have hsh := H.out.2.2.1.short H.out.2.2.2.2 k (by rw [← HN.out.2.2.2.1]; exact hk)
    refine ⟨b, o, xa, _, xc, by rw [e1, q1], q2, fun m => ?_, ?_, ?_⟩
    · unfold setAt
      rw [Int.toNat_natCast]
      exact refHas_any _ _ x (wx.drewN m) (by omega) (q3.below (below_drewN (Below.refl _ _) m))
    · unfold setAt; rw [Int.toNat_natCast]; exact q3
    · unfold setAt; rw [Int.toNat_natCast]; omega
  obtain ⟨W, hW⟩ : ∃ W, W = w.alloc (.cells #[.slice a1 n1 c1, .slice a2 n2 c2, .slice a3 n3 c3] 26) := ⟨_, rfl⟩
  have hBW : Below w.heap.size w W := by rw [hW]; exact below1 w _
  have HBX : Hid (Box3 W w.heap.size (.slice a1 n1 c1) (.slice a2 n2 c2) (.slice a3 n3 c3)) := by
    show Box3 W _ _ _ _
    rw [hW]; exact box3_new w _ _ _ _
  have HX : Hid (∀ wx, Below W.heap.size W wx → Box3 wx w.heap.size (.slice a1 n1 c1) (.slice a2 n2 c2) (.slice a3 n3 c3) ∧ Below w.heap.size w wx) := fun wx hb => ⟨HBX.out.below hb, hBW.trans (hb.mono hBW.size)⟩
  obtain ⟨⟨p0, p1, p2⟩, -⟩ := HX.out W (Below.refl _ _)
  have HWW : Hid (Below w.heap.size w W) := hBW
  clear hn1 hn2 hn3 hnn hS hc hok HBX hes hR hBW
  go_enter Tryz.func21, Tryz.ntmps21
  go_upto_region 1 with fail
  rw [← hW]
  clear hW
  go_wp2_with fail
  go_loopw [5] (fun t5 wr => ∃ k : Nat, k ≤ n3 ∧ t5 = .int .i64 (k : Int) ∧ ((rulesD P).take k).any (lackR hs) = false ∧ Below W.heap.size W wr) (fun t5 _ => (n3 - intOf t5).toNat)
  case atStart => exact ⟨0, Nat.zero_le _, rfl, rfl, Below.refl _ _⟩
  case round =>
    obtain ⟨k, hk, rfl, hany, hbr⟩ := hrel
    have HNY : Hid (((rulesD P).take k).any (lackR hs) = false ∧ Below W.heap.size W wr) := ⟨hany, hbr⟩
    clear p0 p1 p2
    obtain ⟨⟨p0, p1, p2⟩, -⟩ := HX.out wr hbr
    clear hany hbr
    by_cases hlt : k < n3
    · have hki : (k : Int) < n3 := by omega
      have hkl3 : k < (rulesD P).length := by rw [rulesD_len, ← HN.out.2.2.1]; exact hlt
      obtain ⟨r, hr⟩ : ∃ r, r = ruleD P k := ⟨_, rfl⟩
      have hr' : (rulesD P).getD k default = r := by rw [hr]; exact rulesD_at P k (by rw [← HN.out.2.2.1]; exact hlt)
      obtain ⟨ha1, -, -, -⟩ := rule_names H.out.2.2.2.2 r (by rw [← hr']; exact getDmC hkl3)
      have hv : P.vars.length ≤ hs.length := by rw [H.out.2.2.1.len]; unfold places; omega
      obtain ⟨ka, hka⟩ : ∃ m : Nat, r.a = (m : Int) := ⟨r.a.toNat, by omega⟩
      have hkan : ka < n := by rw [HN.out.2.2.2.1]; omega
      have hkai : (ka : Int) < n := by omega
      obtain ⟨kd, hkd⟩ : ∃ kd, kd = S r.kind := ⟨_, rfl⟩
      have hkl : kd.toList = r.kind := by rw [hkd, S_toList]
      obtain ⟨rb, hrb⟩ : ∃ z, z = r.b := ⟨_, rfl⟩
      obtain ⟨rs, hrs⟩ : ∃ z, z = r.stmt := ⟨_, rfl⟩
      obtain ⟨na, hna⟩ : ∃ z, z = r.args.length := ⟨_, rfl⟩
      have HRD : Hid ((rulesD P).getD k default = r ∧ r.a = (ka : Int) ∧ rb = r.b ∧ k < (rulesD P).length) := ⟨hr', hka, hrb, hkl3⟩
      have KR : Hid (Calls Tryz.prog 15 #[.agg #[.slice a1 n1 c1, .slice a2 n2 c2, .slice a3 n3 c3], .int .i64 (k : Int)] wr fun e w' => ∃ aa ac, e = .returned (.agg #[.string kd, .int .i64 (ka : Int), .int .i64 rb, .int .i64 rs, .slice aa na ac]) ∧ Below wr.heap.size wr w') := by
        refine (refRule_any P k _ _ _ W wr H.out.2.2.2.1 H.out.2.2.2.2 (H.out.1.below HWW.out) HNY.out.2 (by rw [← HN.out.2.2.1]; exact hlt)).mono ?_
        rintro e w' ⟨av, rfl, hi, hb⟩
        rw [← hr] at hi ⊢
        obtain ⟨aa, ac, rfl⟩ := isInts_form hi
        rw [hkd, ← hka, hrb, hrs, hna]
        exact ⟨aa, ac, rfl, hb⟩
      clear hr hr' hka hkd hrb hrs hna ha1 hv hkl3
      go_wp2_with fail
      refine KR.out.mono ?_
      rintro e w5 ⟨aa, ac, rfl, hb5⟩
      have HB5 : Hid (Below W.heap.size W w5) := HNY.out.2.trans (hb5.mono HNY.out.2.size)
      clear hb5 KR p0 p1 p2
      go_upto_region 5 with fail
      obtain ⟨W6, hW6⟩ : ∃ W6, W6 = w5.alloc (.cells #[.string kd, .int .i64 (ka : Int), .int .i64 rb, .int .i64 rs, .slice aa na ac] TRf) := ⟨_, rfl⟩
      have HG : Hid (W6.heap[w5.heap.size]? = some (.cells #[.string kd, .int .i64 (ka : Int), .int .i64 rb, .int .i64 rs, .slice aa na ac] TRf (0, 0)) ∧ Below W.heap.size W W6) := by
        have hb6 : Below w5.heap.size w5 W6 := by rw [hW6]; exact below1 w5 _
        exact ⟨by rw [hW6]; exact heap_new w5 _, HB5.out.trans (hb6.mono HB5.out.size)⟩
      rw [← hW6]
      clear hW6
      obtain ⟨g5, hg5⟩ : ∃ g, g = w5.heap.size := ⟨_, rfl⟩
      rw [← hg5] at HG ⊢
      clear hg5
      obtain ⟨⟨t0, t1, t2, -, -⟩, -⟩ := ruleCells HG.out.1
      by_cases hbs : r.kind = kBase
      · have g0 : (kd.toList == [98, 97, 115, 101]) = true := by rw [hkl, hbs]; decide
        obtain ⟨hb, ho, xa, xn, xc, rfl, e0, KC, -, -⟩ := KH.out W6 ka rb hkan (HWW.out.trans (HG.out.2.mono HWW.out.size))
        obtain ⟨D, hD⟩ : ∃ D, D = (setAt hs (ka : Int)).contains rb := ⟨_, rfl⟩
        rw [← hD] at KC
        have HL : Hid (lackR hs ((rulesD P).getD k default) = !D) := by
          show _ = _
          rw [HRD.out.1]
          unfold lackR
          rw [hbs, HRD.out.2.1, ← HRD.out.2.2.1, ← hD]
          rfl
        have KC' : Hid _ := KC
        clear hbs hkl KC hD
        go_quiet ((go_at_call 41; refine Calls.quiet_of_same (KC'.out _)))
        cases D with
        | true =>
          have HS1 : Hid (((rulesD P).take (k + 1)).any (lackR hs) = false) := any_take_no default _ _ k HRD.out.2.2.2 HNY.out.1 (by rw [HL.out]; rfl)
          go_wp2_with fail
          go_roundw
          case rel => exact ⟨k + 1, hlt, by go_num, HS1.out, below_drewN HG.out.2 _⟩
          case measure => simp [intOf]; omega
        | false =>
          have HF : Hid (R = false) := by
            show R = false
            rw [HN.out.2.2.2.2.2, any_take_yes default _ _ k HRD.out.2.2.2 (by rw [HL.out]; rfl)]
            rfl
          go_wp2_with fail
          go_ret
          exact ⟨by rw [HF.out]; rfl, HWW.out.trans ((below_drewN HG.out.2 _).mono HWW.out.size)⟩
      · have g0 : (kd.toList == [98, 97, 115, 101]) = false := by rw [hkl]; exact beq_eq_false_iff_ne.2 hbs
        have HS1 : Hid (((rulesD P).take (k + 1)).any (lackR hs) = false) := any_take_no default _ _ k HRD.out.2.2.2 HNY.out.1 (by
          rw [HRD.out.1]; unfold lackR; rw [beq_eq_false_iff_ne.2 hbs]; rfl)
        clear hbs hkl
        go_quiet (fail)
        go_wp2_with fail
        go_roundw
        case rel => exact ⟨k + 1, hlt, by go_num, HS1.out, below_drewN HG.out.2 _⟩
        case measure => simp [intOf]; omega
    · have hkn : k = n3 := by omega
      subst hkn
      have HR0 : Hid (R = !es.any (lackE hs)) := by
        show R = _
        have := HNY.out.1
        rw [List.take_of_length_le (by rw [rulesD_len, ← HN.out.2.2.1]; exact Nat.le_refl _)] at this
        rw [HN.out.2.2.2.2.2, this]
        simp
      have KE : Hid (Calls Tryz.prog 20 #[.agg #[.slice a1 n1 c1, .slice a2 n2 c2, .slice a3 k c3], .slice ha n hcc] wr fun e w' => ∃ ea en ec, e = .returned (.slice ea en ec) ∧ en = es.length ∧ IsPairs w' (.slice ea en ec) es ∧ Below wr.heap.size wr w') := by
        have hbw := HX.out wr HNY.out.2
        refine (refEdgesOf_any P _ _ _ _ hs wr H.out.2.2.2.1 H.out.2.2.2.2 (H.out.1.below hbw.2) (H.out.2.1.below hbw.2) H.out.2.2.1).mono ?_
        rintro e w' ⟨v, rfl, hp, hb⟩
        replace hp := hp.isPairs
        rw [← HN.out.2.2.2.2.1] at hp
        obtain ⟨ea, ec, rfl, q⟩ := hp
        exact ⟨ea, _, ec, rfl, rfl, ⟨ea, ec, rfl, q⟩, hb⟩
      clear hlt
      go_wp2_with fail
      refine KE.out.mono ?_
      rintro e w6 ⟨ea, en, ec, rfl, hen, hpr, hb6⟩
      have HP : Hid (IsPairs w6 (.slice ea en ec) es ∧ en = es.length ∧ Below W.heap.size W w6) := ⟨hpr, hen, HNY.out.2.trans (hb6.mono HNY.out.2.size)⟩
      clear hpr hen hb6 KE HNY p0 p1 p2
      have hen40 : en ≤ 1000000 := by
        rw [HP.out.2.1, HN.out.2.2.2.2.1]
        have := refEdges_len P hs hs.length
        have h2 : hs.length * hs.length ≤ 200 * 200 := Nat.mul_le_mul (by rw [← HN.out.2.2.2.1]; exact hnl) (by rw [← HN.out.2.2.2.1]; exact hnl)
        omega
      go_wp2_with fail
      go_loopw [8] (fun t8 wq => ∃ j : Nat, j ≤ en ∧ t8 = .int .i64 (j : Int) ∧ (es.take j).any (lackE hs) = false ∧ Below w6.heap.size w6 wq) (fun t8 _ => (en - intOf t8).toNat)
      case atStart => exact ⟨0, Nat.zero_le _, rfl, rfl, Below.refl _ _⟩
      case round =>
        obtain ⟨wq, rfl⟩ : ∃ z, z = wr := ⟨_, rfl⟩
        obtain ⟨j, hj, rfl, hany, hbq⟩ := hrel
        have HNY : Hid ((es.take j).any (lackE hs) = false ∧ Below w6.heap.size w6 wq) := ⟨hany, hbq⟩
        clear hany hbq
        have HBW : Hid (Below w.heap.size w wq) := by
          have h1 := HX.out w6 HP.out.2.2
          exact h1.2.trans (HNY.out.2.mono h1.2.size)
        by_cases hlt : j < en
        · have hji : (j : Int) < en := by omega
          have hjl : j < es.length := by rw [← HP.out.2.1]; exact hlt
          obtain ⟨p, hp⟩ : ∃ p, p = es.getD j default := ⟨_, rfl⟩
          have hpm : p ∈ refEdges P hs hs.length := by rw [← HN.out.2.2.2.2.1, hp]; exact getDmC hjl
          obtain ⟨f1, f2⟩ := found_nodes H.out.2.2.2.2 H.out.2.2.1 p ((refEdges_mem H.out.2.2.2.2 H.out.2.2.1 p).1 hpm).1
          obtain ⟨x, hx⟩ : ∃ m : Nat, p.1 = (m : Int) := ⟨p.1.toNat, by omega⟩
          obtain ⟨y, hy⟩ : ∃ m : Nat, p.2 = (m : Int) := ⟨p.2.toNat, by omega⟩
          have hxn : x < n := by rw [HN.out.2.2.2.1]; omega
          have hyn : y < n := by rw [HN.out.2.2.2.1]; omega
          have hxi : (x : Int) < n := by omega
          have hyi : (y : Int) < n := by omega
          obtain ⟨ea', ec', e', q⟩ := HP.out.1.below HNY.out.2
          injection e' with e1 e2 e3
          obtain ⟨g, hg, d0, d1⟩ := q j hjl
          obtain rfl : ea = some ⟨g, 0, none⟩ := by rw [e1, hg]
          rw [← hp, hx] at d0
          rw [← hp, hy] at d1
          obtain ⟨b, o, xa, xn, xc, rfl, e0, -, i0, l0⟩ := KH.out wq x 0 hxn HBW.out
          obtain ⟨b', o', ya, yn, yc, hab, e0', -, i1, l1⟩ := KH.out wq y 0 hyn HBW.out
          injection hab with hab
          injection hab with hb1 hb2 hb3
          subst hb1 hb2
          obtain ⟨D, hD⟩ : ∃ D, D = (setAt hs (x : Int)).all fun z => (setAt hs (y : Int)).contains z := ⟨_, rfl⟩
          have HL : Hid (lackE hs (es.getD j default) = !D ∧ j < es.length) := by
            refine ⟨?_, hjl⟩
            rw [← hp]
            unfold lackE
            rw [hx, hy, ← hD]
          have KC : Hid (∀ m, Calls Tryz.prog 58 #[.slice xa xn xc, .slice ya yn yc] (wq.drewN m) fun e w' => e = .returned (.bool D) ∧ w' = wq.drewN m) := fun m => by
            rw [hD]
            exact refWithin_any _ _ _ _ (wq.drewN m) l0 l1 (i0.below (below_drewN (Below.refl _ _) m)) (i1.below (below_drewN (Below.refl _ _) m))
          clear q hp hpm f1 f2 hx hy i0 i1 l0 l1 hD e1 e2 e3 hg hjl hb3
          go_wp2_with fail
          go_quiet ((go_at_call 58; refine Calls.quiet_of_same (KC.out _)))
          cases D with
          | true =>
            have HS1 : Hid ((es.take (j + 1)).any (lackE hs) = false) := any_take_no default _ _ j HL.out.2 HNY.out.1 (by rw [HL.out.1]; rfl)
            go_wp2_with fail
            go_roundw
            case rel => exact ⟨j + 1, hlt, by go_num, HS1.out, below_drewN HNY.out.2 _⟩
            case measure => simp [intOf]; omega
          | false =>
            have HF : Hid (R = false) := by
              show R = false
              rw [HR0.out, any_take_yes default _ _ j HL.out.2 (by rw [HL.out.1]; rfl)]
              rfl
            go_wp2_with fail
            go_ret
            exact ⟨by rw [HF.out]; rfl, below_drewN HBW.out _⟩
        · have hjn : j = en := by omega
          have HF : Hid (R = true) := by
            show R = true
            have := HNY.out.1
            rw [List.take_of_length_le (by rw [← HP.out.2.1]; omega)] at this
            rw [HR0.out, this]; rfl
          go_wp2_with fail
          go_ret
          exact ⟨by rw [HF.out]; rfl, HBW.out⟩
end Go.Proofs.YtfajpkdpnpdfkaaGreatDoor

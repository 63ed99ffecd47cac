/-
  Package prog: readFun, by a contract.
-/
import Derived.Test.YtakmmpbkojhmhaaGreatDoorPV
import Derived.Test.YtakmmpbkojhmhaaGreatDoorPMem
namespace Go.Proofs.YtakmmpbkojhmhaaGreatDoor
open Go.RowKit Go.Extern.Stop Go.Stop Go.Extern

theorem containsI_any (zs : List Int) (v : Value) (x : Int) (w : World) (hm : zs.length ≤ 1000000) (h : IsInts w v zs) :
    Calls Tryz.prog 50 #[v, .int .i64 x] w fun e w' => e = .returned (.bool (zs.contains x)) ∧ w' = w := by
  rcases h with ⟨hz, a, c, rfl⟩ | ⟨hz, b, o, c, rfl, hc⟩
  · subst hz
    exact Tryz.slices_Contains_int_empty a c x w
  · have := Tryz.slices_Contains_int b o zs.length c zs x w (Nat.le_refl _) (by omega) hc
    rw [List.take_length] at this
    exact this
set_option maxRecDepth 100000 in
set_option maxHeartbeats 8000000 in
theorem readFun_any (a : Nat → Addr) (B pb : Nat) (P : ProgD) (s : Bs) (v1 v2 v3 : Value) (ps qs : List Value) (w : World) (hst : St w B pb P v1 v2 v3 ps qs) (hl1 : P.vars.length ≤ 100000) (hl : P.funs.length ≤ 100000) (hz : s.length ≤ 100000) (hE : Errs5 w a) (hM : MaxL w) :
    Calls Tryz.prog 146 #[.pointer (some ⟨pb, 0, none⟩), .string (S s)] w fun e w' => Does a B pb w w' (readFunD P s) e := by
  have HST : Hid (St w B pb P v1 v2 v3 ps qs) := hst
  have HE : Hid (Errs5 w a) := hE
  have lB : (listB s).length ≤ s.length := Nat.le_trans (cut_len _ [41]).2 (cut_len s [40]).2
  have lN : (listN s).length ≤ s.length := (cut_len s [40]).1
  obtain ⟨rt, hrt⟩ : ∃ r, r = Lib.trimPrefix (listB s) [32] := ⟨_, rfl⟩
  have lR : rt.length ≤ s.length := by rw [hrt]; exact Nat.le_trans (trim_len _ _) lB
  have lL := listL_length s
  have K1 : Hid (Calls Tryz.prog 177 #[.string (S s)] w fun e w' => ∃ lv, e = .returned (.tuple #[.string (S (listN s)), lv, .string (S (listB s)), .bool (listOk s)]) ∧ IsStrs w' lv (listL s) ∧ NewV w lv ∧ Below w.heap.size w w') := cutList_any s w hz hM
  have K2 : Hid (∀ wx, Calls Tryz.prog 92 #[.string (S (listB s)), .string ⟨#[32]⟩] wx fun e w' => e = .returned (.tuple #[.string (S rt), .bool (Lib.hasPrefix (listB s) [32])]) ∧ w' = wx) := fun wx => by rw [hrt]; exact cutp_any (listB s) [32] wx
  have K3 : Hid (∀ wx, Calls Tryz.prog 100 #[.string (S rt)] wx fun e w' => e = .returned (.bool (isNm rt)) ∧ w' = wx) := fun wx => isName_any rt wx
  have K4 : Hid (∀ wx, Below w.heap.size w wx → Calls Tryz.prog 178 #[v1] wx fun e w' => ∃ nb, e = .returned (finderF nb) ∧ NamesAt w' nb P.vars ∧ Below wx.heap.size wx w') := fun wx hb => finder_any P.vars v1 wx (hst.below hb).isProg.vars
  have K5 : Hid (∀ wx, Below w.heap.size w wx → Calls Tryz.prog 176 #[.string (S (listN s))] wx fun e w' => e = .returned (.string (S (listN s))) ∧ Below wx.heap.size wx w') := fun wx _ => clone_any (S (listN s)) wx (by rw [S_size]; omega)
  have HB : Hid (∀ wx, Below w.heap.size w wx → Below B w wx) := fun wx h => h.mono hst.size
  have HSZ : Hid (B ≤ w.heap.size ∧ (listL s).length ≤ 200000 ∧ P.vars.length ≤ 1000000 ∧ P.funs.length ≤ 1000000) := ⟨hst.size, by omega, by omega, by omega⟩
  have HX : Hid ((listOk s = false ∨ Lib.hasPrefix (listB s) [32] = false ∨ isNm rt = false ∨ 0 < P.stmts.length) → readFunD P s = (P, some 0)) := fun h => by
    unfold readFunD
    rw [← hrt, if_pos]
    rcases h with h | h | h | h
    · rw [h]; rfl
    · rw [h]; simp
    · rw [h]; simp
    · rw [show P.stmts.isEmpty = false by rw [List.isEmpty_eq_false_iff]; intro q; rw [q] at h; exact absurd h (by decide)]; simp
  have HY : Hid (listOk s = true → Lib.hasPrefix (listB s) [32] = true → isNm rt = true → P.stmts.length = 0 → readFunD P s = if ((listL s).map (idx P.vars)).contains (-1) || idx P.vars rt == -1 then (P, some 5) else ({ P with funs := P.funs ++ [⟨listN s, (listL s).map (idx P.vars), idx P.vars rt⟩] }, none)) := fun h1 h2 h3 h4 => by
    unfold readFunD
    rw [← hrt, if_neg]
    rw [h1, h2, h3, List.eq_nil_of_length_eq_zero h4]; decide
  obtain ⟨c0, c1, c2⟩ := hst.cells
  obtain ⟨a1, n1, rfl⟩ := owns_form hst.o1
  obtain ⟨a2, n2, rfl⟩ := owns_form hst.o2
  obtain ⟨a3, n3, rfl⟩ := owns_form hst.o3
  have hpb : pb < w.heap.size := (Array.getElem?_eq_some_iff.1 hst.blk).1
  obtain ⟨m1, hm1⟩ : ∃ m, m = P.vars.length := ⟨_, rfl⟩
  obtain ⟨m2, hm2⟩ : ∃ m, m = P.funs.length := ⟨_, rfl⟩
  obtain ⟨m3, hm3⟩ : ∃ m, m = P.stmts.length := ⟨_, rfl⟩
  have HMM : Hid (m1 = P.vars.length ∧ m2 = P.funs.length ∧ m3 = P.stmts.length) := ⟨hm1, hm2, hm3⟩
  rw [← hm1] at c0 K4
  rw [← hm2] at c1
  rw [← hm3] at c2
  rw [← hm1, ← hm2, ← hm3] at HST
  obtain ⟨D1, hD1⟩ : ∃ D, D = listOk s := ⟨_, rfl⟩
  obtain ⟨D2, hD2⟩ : ∃ D, D = Lib.hasPrefix (listB s) [32] := ⟨_, rfl⟩
  obtain ⟨D3, hD3⟩ : ∃ D, D = isNm rt := ⟨_, rfl⟩
  rw [← hD1] at K1 HX HY
  rw [← hD2] at K2 HX HY
  rw [← hD3] at K3 HX HY
  obtain ⟨bN, hbN⟩ : ∃ b, b = S (listN s) := ⟨_, rfl⟩
  obtain ⟨bB, hbB⟩ : ∃ b, b = S (listB s) := ⟨_, rfl⟩
  obtain ⟨bR, hbR⟩ : ∃ b, b = S rt := ⟨_, rfl⟩
  obtain ⟨bs, hbs⟩ : ∃ b, b = S s := ⟨_, rfl⟩
  have HBN : Hid (bN = S (listN s) ∧ bR = S rt) := ⟨hbN, hbR⟩
  rw [← hbN, ← hbB, ← hbs] at K1
  rw [← hbB, ← hbR] at K2
  rw [← hbR] at K3
  rw [← hbN] at K5
  rw [← hbs]
  clear hbs hbN hbB hbR hD1 hD2 hD3 hm1 hm2 hm3 hst hE hM hrt lB lN lR lL hl hl1 hz
  go_enter Tryz.func146, Tryz.ntmps146
  go_wp2_with fail
  refine K1.out.mono ?_
  rintro e w1 ⟨lv, rfl, hlv, -, hB1⟩
  have HLV : Hid (IsStrs w1 lv (listL s)) := hlv
  obtain ⟨la, lc, rfl, -, -⟩ := hlv
  have e0 := (HE.out.below hB1).c0
  have d2 := cell_keep hB1 c2
  have d0 := cell_keep hB1 c0
  clear K1
  go_wp2_with fail
  refine (K2.out _).mono ?_
  rintro e w2 ⟨rfl, hw⟩
  obtain rfl := hw.symm
  clear hw K2
  have FIN : Hid (readFunD P s = (P, some 0) → Does a B pb w w1 (readFunD P s) (.returned (.iface 231 (.pointer (some (a 0)))))) := fun h => by
    rw [h]
    exact ⟨rfl, ⟨_, _, _, _, _, HST.out.below hB1⟩, HB.out _ hB1⟩
  cases D1 with
  | false =>
    have hX := HX.out (Or.inl rfl)
    have HF : Hid _ := FIN.out hX
    clear hX HX HY
    go_wp2_with fail
    go_ret
    exact HF.out
  | true =>
  cases D2 with
  | false =>
    have hX := HX.out (Or.inr (Or.inl rfl))
    have HF : Hid _ := FIN.out hX
    clear hX HX HY
    go_wp2_with fail
    go_ret
    exact HF.out
  | true =>
  go_wp2_with fail
  refine (K3.out _).mono ?_
  rintro e w2 ⟨rfl, hw⟩
  obtain rfl := hw.symm
  clear hw K3
  cases D3 with
  | false =>
    have hX := HX.out (Or.inr (Or.inr (Or.inl rfl)))
    have HF : Hid _ := FIN.out hX
    clear hX HX HY
    go_wp2_with fail
    go_ret
    exact HF.out
  | true =>
  by_cases g3 : 0 < (m3 : Int)
  · have hX := HX.out (Or.inr (Or.inr (Or.inr (by have := HMM.out; omega))))
    have HF : Hid _ := FIN.out hX
    clear hX HX HY
    go_wp2_with fail
    go_ret
    exact HF.out
  have HY2 : Hid (readFunD P s = if ((listL s).map (idx P.vars)).contains (-1) || idx P.vars rt == -1 then (P, some 5) else ({ P with funs := P.funs ++ [⟨listN s, (listL s).map (idx P.vars), idx P.vars rt⟩] }, none)) := HY.out (by trivial) (by trivial) (by trivial) (by have := HMM.out; omega)
  clear HX HY FIN
  go_wp2_with fail
  refine (K4.out _ hB1).mono ?_
  rintro e w3 ⟨nb, rfl, hnb, hB3⟩
  have HNB : Hid (NamesAt w3 nb P.vars) := hnb
  have hB3w : Below w.heap.size w w3 := hB1.trans (hB3.mono hB1.size)
  have HLV3 : Hid (IsStrs w3 (.slice la (listL s).length lc) (listL s)) := HLV.out.below hB3
  clear hnb K4 HLV hB3 e0 d2 d0
  go_wp2_with fail
  refine (K5.out _ hB3w).mono ?_
  rintro e w4 ⟨rfl, hB4⟩
  have hB4w : Below w.heap.size w w4 := hB3w.trans (hB4.mono hB3w.size)
  have HN4 : Hid (NamesAt w4 nb P.vars ∧ IsStrs w4 (.slice la (listL s).length lc) (listL s)) := ⟨HNB.out.below hB4, HLV3.out.below hB4⟩
  clear hB4 K5 HNB HLV3
  go_wp2_with fail
  refine (eachSI P.vars (listL s) _ nb w4 HSZ.out.2.2.1 (by have := HSZ.out.2.1; omega) HN4.out.2 HN4.out.1).mono ?_
  rintro e w5 ⟨pv, rfl, hpv, hB5⟩
  have hB5w : Below w.heap.size w w5 := hB4w.trans (hB5.mono hB4w.size)
  have HPV : Hid (w5.ownsRow B 3 1 pv ((listL s).map (idx P.vars)).length (((listL s).map (idx P.vars)).map intV)) := owns_mono hpv (Nat.le_trans HSZ.out.1 hB4w.size)
  have HN5 : Hid (NamesAt w5 nb P.vars) := HN4.out.1.below hB5
  obtain ⟨pa, pc, rfl⟩ := owns_form hpv
  obtain ⟨rv, hrv⟩ : ∃ r, r = idx P.vars rt := ⟨_, rfl⟩
  have K6 : Hid (Calls Tryz.prog 198 #[.string bR, .pointer (some ⟨nb, 0, none⟩)] w5 fun e w' => e = .returned (.int .i64 rv) ∧ w' = w5) := by
    rw [HBN.out.2, hrv]; exact finder1_any P.vars rt nb w5 HSZ.out.2.2.1 HN5.out
  obtain ⟨L, hLe⟩ : ∃ L, L = (listL s).map (idx P.vars) := ⟨_, rfl⟩
  have hLl : L.length ≤ 200000 := by rw [hLe, List.length_map]; exact HSZ.out.2.1
  rw [← hLe, ← hrv] at HY2
  rw [← hLe] at HPV
  have KC : Hid (∀ o, Calls Tryz.prog 50 #[.slice pa L.length pc, .int .i64 (-1)] (w5.alloc o) fun e w' => e = .returned (.bool (L.contains (-1))) ∧ w' = w5.alloc o) := fun o => containsI_any L _ (-1) _ (by omega) ((isCap_of_owns HPV.out).below (below1 w5 o)).1
  obtain ⟨D4, hD4⟩ : ∃ D, D = L.contains (-1) := ⟨_, rfl⟩
  rw [← hD4] at KC HY2
  have hLle : ((listL s).map (idx P.vars)).length = L.length := by rw [hLe]
  rw [hLle]
  obtain ⟨F, hF⟩ : ∃ F : FunD, F = ⟨listN s, L, rv⟩ := ⟨_, rfl⟩
  have HA : Hid (∀ o, ∃ v' w', (Builtin.append_ #[40, 40] 40 #[.slice a2 m2 n2, .slice (some ⟨(w5.alloc o).drew.heap.size, 0, none⟩) 1 1]).run Tryz.prog ((w5.alloc o).drew.alloc (.cells #[.string bN, .slice pa L.length pc, .int .i64 rv] 78)) = .ok v' w' ∧
      w'.cell? ⟨pb, 1, none⟩ = some (.slice a2 m2 n2) ∧ w'.frozen? ⟨pb, 1, none⟩ = false ∧ (∃ a n c, v' = .slice a n c) ∧ St (w'.setCell ⟨pb, 1, none⟩ v') B pb { P with funs := P.funs ++ [F] } (.slice a1 m1 n1) v' (.slice a3 m3 n3) (ps ++ [.slice pa L.length pc]) qs ∧ Below B w (w'.setCell ⟨pb, 1, none⟩ v')) := fun o => by
    have hb6 : Below w.heap.size w (w5.alloc o) := hB5w.alloc hB5w.size o
    have := (HST.out.below hb6.drew).addFun HSZ.out.2.2.2 F (.slice pa L.length pc) (by rw [hF]; exact owns_below HPV.out (below1 w5 o).drew)
    obtain ⟨v', w', h1, h2, h3, h4, h5, h6⟩ := this
    rw [hF] at h1
    rw [HBN.out.1]
    exact ⟨v', w', h1, h2, h3, h4, h5, (HB.out _ hb6.drew).trans h6⟩
  have HDOES : Hid (∀ o, readFunD P s = (P, some 5) → Does a B pb w (w5.alloc o) (readFunD P s) (.returned (.iface 231 (.pointer (some (a 5)))))) := fun o h => by
    rw [h]
    exact ⟨rfl, ⟨_, _, _, _, _, HST.out.below (hB5w.alloc hB5w.size o)⟩, HB.out _ (hB5w.alloc hB5w.size o)⟩
  have q1 := fun o => cell_keep (hB5w.alloc hB5w.size o) c1
  have q1' := fun o o' => cell_keep ((hB5w.alloc hB5w.size o).alloc (by have := hB5w.size; simp; omega) o') c1
  have e5 := fun o => (HE.out.below (hB5w.alloc hB5w.size o)).c5
  have hpb5 : pb < w5.heap.size := Nat.lt_of_lt_of_le hpb hB5w.size
  rw [← hF] at HY2
  clear hpv hB5 HN4 hrv hLe hD4 hLle hF HPV HN5 hB4w hB3w hB1 c0 c1 c2 hLl
  go_wp2_with fail
  refine K6.out.mono ?_
  rintro e w6 ⟨rfl, hw⟩
  obtain rfl := hw.symm
  clear hw K6
  go_wp2_with fail
  refine (KC.out _).mono ?_
  rintro e w6 ⟨rfl, hw⟩
  obtain rfl := hw.symm
  clear hw KC
  cases D4 with
  | true =>
    have HF : Hid _ := HDOES.out (.cells #[.string bN, .slice pa L.length pc, .int .i64 rv] 78) HY2.out
    go_wp2_with fail
    go_ret
    exact HF.out
  | false =>
    by_cases hr1 : rv = -1
    · subst hr1
      have HF : Hid _ := HDOES.out (.cells #[.string bN, .slice pa L.length pc, .int .i64 (-1)] 78) (by rw [HY2.out]; rfl)
      go_wp2_with fail
      go_ret
      exact HF.out
    · have hbq : (rv == -1) = false := beq_eq_false_iff_ne.2 hr1
      have HZ : Hid (readFunD P s = ({ P with funs := P.funs ++ [F] }, none)) := by
        show readFunD P s = _
        rw [HY2.out, hbq]; rfl
      obtain ⟨v', w7, hr0, d0, d1, ⟨xa, xn, xc, rfl⟩, hS, hBe⟩ := HA.out (.cells #[.string bN, .slice pa L.length pc, .int .i64 rv] 78)
      have HS7 : Hid (St (w7.setCell ⟨pb, 1, none⟩ (.slice xa xn xc)) B pb { P with funs := P.funs ++ [F] } (.slice a1 m1 n1) (.slice xa xn xc) (.slice a3 m3 n3) (ps ++ [.slice pa L.length pc]) qs ∧ Below B w (w7.setCell ⟨pb, 1, none⟩ (.slice xa xn xc))) := ⟨hS, hBe⟩
      have hq1 := q1 (.cells #[.string bN, .slice pa L.length pc, .int .i64 rv] 78)
      obtain ⟨w6, hw6⟩ : ∃ w6, w6 = w5.alloc (.cells #[.string bN, .slice pa L.length pc, .int .i64 rv] 78) := ⟨_, rfl⟩
      have t0 : w6.cell? ⟨w5.heap.size, 0, none⟩ = some (.string bN) := by rw [hw6]; simp
      have t1 : w6.cell? ⟨w5.heap.size, 1, none⟩ = some (.slice pa L.length pc) := by rw [hw6]; simp
      have t2 : w6.cell? ⟨w5.heap.size, 2, none⟩ = some (.int .i64 rv) := by rw [hw6]; simp
      rw [← hw6] at hq1 hr0
      have hq2 := fun o => cell_keep (below1 w6 o) hq1
      have HR : Hid ((Builtin.append_ #[40, 40] 40 #[.slice a2 m2 n2, .slice (some ⟨w6.heap.size, 0, none⟩) 1 1]).run Tryz.prog ((w6.alloc (.cells #[.string bN, .slice pa L.length pc, .int .i64 rv] 78)).drew) = .ok (.slice xa xn xc) w7) := hr0
      clear hr0 hS hBe HA HDOES HY2 hr1 q1 q1' e5
      go_wp2_with fail
      rw [← hw6]
      clear hw6
      go_region_law (refine step_append_run rfl (.tmp 72) (.tmp 74) _ _ rfl _ _ rfl rfl _ _ HR.out ?_)
      all_goals (go_wp2_with fail; go_ret)
      all_goals rw [HZ.out]
      all_goals exact ⟨rfl, ⟨_, _, _, _, _, HS7.out.1⟩, HS7.out.2⟩
end Go.Proofs.YtakmmpbkojhmhaaGreatDoor

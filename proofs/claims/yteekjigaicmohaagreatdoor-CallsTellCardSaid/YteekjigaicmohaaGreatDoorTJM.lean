/-
  The object of any value: package run's Object and the document's ObjectOf, by contracts.
-/
import Derived.Test.YteekjigaicmohaaGreatDoorRJM
import Derived.Test.YteekjigaicmohaaGreatDoorPJPM
import Derived.Test.YteekjigaicmohaaGreatDoorQFM
import Derived.Lib.QuietBelow
import Derived.BigQuiet
namespace Go.Proofs.YteekjigaicmohaaGreatDoor
open Go.RowKit Go.Extern.Stop Go.Stop Go.Extern

/-- The object of a value of so named a kind. -/
def objV (P : ProgD) (pl : List Int) (K : Bs) (N : Int) : Int :=
  if N < 0 then -1
  else if K = [118, 97, 114] then (if N < (P.vars.length : Int) then N else -1)
  else if K = [116, 104, 105, 110, 103] then (if N < (pl.length : Int) then placeD P (pl.getD N.toNat 0) else -1)
  else if K = [102, 117, 110] then (if N < (P.funs.length : Int) then ((places P P.stmts.length : Nat) : Int) + N else -1)
  else -1
theorem kinds_of (K : Bs) : (K = [118, 97, 114] ∧ (K == [118, 97, 114]) = true ∧ (K == [116, 104, 105, 110, 103]) = false ∧ (K == [102, 117, 110]) = false) ∨
    (K = [116, 104, 105, 110, 103] ∧ (K == [118, 97, 114]) = false ∧ (K == [116, 104, 105, 110, 103]) = true ∧ (K == [102, 117, 110]) = false) ∨
    (K = [102, 117, 110] ∧ (K == [118, 97, 114]) = false ∧ (K == [116, 104, 105, 110, 103]) = false ∧ (K == [102, 117, 110]) = true) ∨
    ((K ≠ [118, 97, 114] ∧ K ≠ [116, 104, 105, 110, 103] ∧ K ≠ [102, 117, 110]) ∧ (K == [118, 97, 114]) = false ∧ (K == [116, 104, 105, 110, 103]) = false ∧ (K == [102, 117, 110]) = false) := by
  by_cases h1 : K = [118, 97, 114]
  · subst h1; exact Or.inl ⟨rfl, by decide, by decide, by decide⟩
  by_cases h2 : K = [116, 104, 105, 110, 103]
  · subst h2; exact Or.inr (Or.inl ⟨rfl, by decide, by decide, by decide⟩)
  by_cases h3 : K = [102, 117, 110]
  · subst h3; exact Or.inr (Or.inr (Or.inl ⟨rfl, by decide, by decide, by decide⟩))
  · exact Or.inr (Or.inr (Or.inr ⟨⟨h1, h2, h3⟩, beq_eq_false_iff_ne.2 h1, beq_eq_false_iff_ne.2 h2, beq_eq_false_iff_ne.2 h3⟩))
theorem objV_neg {P : ProgD} {pl : List Int} {K : Bs} {N : Int} (h : N < 0) : objV P pl K N = -1 := by unfold objV; rw [if_pos h]
theorem objV_var {P : ProgD} {pl : List Int} {K : Bs} {N : Int} (h : ¬ N < 0) (hK : K = [118, 97, 114]) : objV P pl K N = if N < (P.vars.length : Int) then N else -1 := by unfold objV; rw [if_neg h, if_pos hK]
theorem objV_thing {P : ProgD} {pl : List Int} {K : Bs} {N : Int} (h : ¬ N < 0) (hK : K = [116, 104, 105, 110, 103]) : objV P pl K N = if N < (pl.length : Int) then placeD P (pl.getD N.toNat 0) else -1 := by
  unfold objV; rw [if_neg h, if_neg (by rw [hK]; decide), if_pos hK]
theorem objV_fun {P : ProgD} {pl : List Int} {K : Bs} {N : Int} (h : ¬ N < 0) (hK : K = [102, 117, 110]) : objV P pl K N = if N < (P.funs.length : Int) then ((places P P.stmts.length : Nat) : Int) + N else -1 := by
  unfold objV; rw [if_neg h, if_neg (by rw [hK]; decide), if_neg (by rw [hK]; decide), if_pos hK]
theorem objV_none {P : ProgD} {pl : List Int} {K : Bs} {N : Int} (hK : K ≠ [118, 97, 114] ∧ K ≠ [116, 104, 105, 110, 103] ∧ K ≠ [102, 117, 110]) : objV P pl K N = -1 := by
  unfold objV; split
  · rfl
  · rw [if_neg hK.1, if_neg hK.2.1, if_neg hK.2.2]
theorem places_small {P : ProgD} (hs : SmallP P) : places P P.stmts.length ≤ 2000000 := by
  have := places_le P P.stmts.length
  have := hs.1; have := hs.2.2.1
  omega

set_option maxRecDepth 100000 in
set_option maxHeartbeats 8000000 in
theorem object_any (a : Nat → Addr) (P : ProgD) (v1 v2 v3 s1 s2 s3 : Value) (pl : List Int) (K : ByteArray) (N : Int) (w : World) (hs : SmallP P) (h : IsProg w v1 v2 v3 P) (hE : Errs5 w a) (hc : checkE P = none) (hp : IsInts w s3 pl) :
    Calls Tryz.prog 40 #[.agg #[v1, v2, v3], .agg #[s1, s2, s3], .agg #[.string K, .int .i64 N]] w fun e w' => e = .returned (.int .i64 (objV P pl K.toList N)) ∧ Below w.heap.size w w' := by
  have H : Hid (IsProg w v1 v2 v3 P) := h
  obtain ⟨⟨a1, c1, rfl, -, -⟩, ⟨a2, c2, rfl, -, -⟩, ⟨a3, c3, rfl, -, -⟩⟩ := h
  obtain ⟨pa, pc, rfl⟩ := isInts_form hp
  obtain ⟨n1, hn1⟩ : ∃ m, m = P.vars.length := ⟨_, rfl⟩
  obtain ⟨n2, hn2⟩ : ∃ m, m = P.funs.length := ⟨_, rfl⟩
  obtain ⟨n3, hn3⟩ : ∃ m, m = P.stmts.length := ⟨_, rfl⟩
  obtain ⟨np, hnp⟩ : ∃ m, m = pl.length := ⟨_, rfl⟩
  have HN : Hid (n1 = P.vars.length ∧ n2 = P.funs.length ∧ n3 = P.stmts.length ∧ np = pl.length) := ⟨hn1, hn2, hn3, hnp⟩
  rw [← hn1, ← hn2, ← hn3] at H ⊢
  rw [← hnp] at hp ⊢
  obtain ⟨W, hW⟩ : ∃ W, W = ((w.alloc (.cells #[.slice a1 n1 c1, .slice a2 n2 c2, .slice a3 n3 c3] 26)).alloc (.cells #[s1, s2, .slice pa np pc] 75)).alloc (.cells #[.string K, .int .i64 N] 80) := ⟨_, rfl⟩
  have hBW : Below w.heap.size w W := by rw [hW]; exact ((below1 w _).alloc (by simp) _).alloc (by simp; omega) _
  have HX : Hid (Box3 W w.heap.size (.slice a1 n1 c1) (.slice a2 n2 c2) (.slice a3 n3 c3)) := by
    show Box3 _ _ _ _ _
    rw [hW]; exact ((box3_new w _ _ _ _).below (below1 _ _)).below (below1 _ _)
  have HY : Hid (W.cell? ⟨w.heap.size + 1, 2, none⟩ = some (.slice pa np pc)) := by
    show _ = _
    rw [hW]
    refine cell_keep (below1 _ _) ?_
    exact new_cell _ _ _ _ _ _ (by simp) rfl
  have HV : Hid (W.cell? ⟨w.heap.size + 2, 0, none⟩ = some (.string K) ∧ W.cell? ⟨w.heap.size + 2, 1, none⟩ = some (.int .i64 N)) := by
    refine ⟨?_, ?_⟩
    · rw [hW]; exact new_cell _ _ _ _ _ _ (by simp) rfl
    · rw [hW]; exact new_cell _ _ _ _ _ _ (by simp) rfl
  have KC : Hid (Calls Tryz.prog 18 #[.agg #[.slice a1 n1 c1, .slice a2 n2 c2, .slice a3 n3 c3]] W fun e w' => e = .returned .nilIface ∧ Below W.heap.size W w') := by
    refine (check_any a P _ _ _ W hs (H.out.below hBW) (hE.below hBW)).mono ?_
    rintro e w' ⟨v', rfl, hv, hb⟩
    rcases hv.cases with ⟨_, rfl⟩ | ⟨q, _⟩
    · exact ⟨rfl, hb⟩
    · rw [hc] at q; cases q
  have HTR : Hid (true = (checkE P).isNone) := by show true = _; rw [hc]; rfl
  have KN : Hid (∀ wx, Below w.heap.size w wx → Calls Tryz.prog 43 #[.agg #[.slice a1 n1 c1, .slice a2 n2 c2, .slice a3 n3 c3]] wx fun e w' => e = .returned (.int .i64 ((places P P.stmts.length : Nat) : Int)) ∧ Below wx.heap.size wx w') := fun wx hwx => by
    have := nodes_any a P _ _ _ wx hs (H.out.below hwx) (hE.below hwx)
    rw [show nodesD P = ((places P P.stmts.length : Nat) : Int) by unfold nodesD; rw [← HTR.out, if_pos rfl]] at this
    exact this
  have KP : Hid (∀ wx k, Below w.heap.size w wx → Calls Tryz.prog 83 #[.agg #[.slice a1 n1 c1, .slice a2 n2 c2, .slice a3 n3 c3], .int .i64 k] wx fun e w' => e = .returned (.int .i64 (placeD P k)) ∧ Below wx.heap.size wx w') := fun wx k hwx => place_any a P k _ _ _ wx hs (H.out.below hwx) (hE.below hwx)
  have HPI : Hid (∀ wx, Below w.heap.size w wx → ∀ j, j < np → ∃ b o, pa = some ⟨b, o, none⟩ ∧ wx.cell? ⟨b, o + j, none⟩ = some (.int .i64 (pl.getD j 0))) := fun wx hwx j hj => isInts_at (hp.below hwx) j (by omega)
  have HPS : Hid (places P P.stmts.length ≤ 2000000 ∧ n2 ≤ 1000000) := ⟨places_small hs, by have := hs.2.1; omega⟩
  rw [hW] at KC
  have HB0 : Hid (Below w.heap.size w W) := hBW
  obtain ⟨R, hR⟩ : ∃ R, R = objV P pl K.toList N := ⟨_, rfl⟩
  rw [← hR]
  have HO0 : Hid (R = objV P pl K.toList N) := hR
  clear hR hn1 hn2 hn3 hnp hE hp hs hc hBW
  go_enter Tryz.func40, Tryz.ntmps40
  go_wp2_with fail
  refine KC.out.mono ?_
  rintro e w1 ⟨rfl, hB1⟩
  rw [← hW] at hB1
  clear KC hW
  have hBw : Below w.heap.size w w1 := HB0.out.trans (hB1.mono HB0.out.size)
  obtain ⟨b0, b1, b2⟩ := HX.out.below hB1
  have y2 := cell_keep hB1 HY.out
  have u0 := cell_keep hB1 HV.out.1
  have u1 := cell_keep hB1 HV.out.2
  by_cases hN : N < 0
  · have HO : Hid (R = -1) := by show R = _; rw [HO0.out]; exact objV_neg hN
    clear HO0
    go_wp2_with fail
    go_ret
    exact ⟨by rw [HO.out]; rfl, hBw⟩
  rcases kinds_of K.toList with ⟨hK, g1, g2, g3⟩ | ⟨hK, g1, g2, g3⟩ | ⟨hK, g1, g2, g3⟩ | ⟨hK, g1, g2, g3⟩
  · by_cases hl : N < (n1 : Int)
    · have HO : Hid (R = N) := by show R = _; rw [HO0.out, objV_var hN hK, ← HN.out.1, if_pos hl]
      clear HO0 hK
      go_wp2_with fail
      go_ret
      exact ⟨by rw [HO.out]; first | done | rfl, hBw⟩
    · have HO : Hid (R = -1) := by show R = _; rw [HO0.out, objV_var hN hK, ← HN.out.1, if_neg hl]
      clear HO0 hK
      go_wp2_with fail
      go_ret
      exact ⟨by rw [HO.out]; rfl, hBw⟩
  · by_cases hl : N < (np : Int)
    · have HO : Hid (R = placeD P (pl.getD N.toNat 0)) := by show R = _; rw [HO0.out, objV_thing hN hK, ← HN.out.2.2.2, if_pos hl]
      obtain ⟨j, rfl⟩ : ∃ j : Nat, N = (j : Int) := ⟨N.toNat, by omega⟩
      have hj : j < np := by omega
      obtain ⟨b, o, rfl, e0⟩ := HPI.out w1 hBw j hj
      rw [Int.toNat_natCast] at HO
      obtain ⟨q, hq⟩ : ∃ q, q = pl.getD j 0 := ⟨_, rfl⟩
      rw [← hq] at e0 HO
      have KJ : ∀ d os, Calls Tryz.prog 83 #[.agg #[.slice a1 n1 c1, .slice a2 n2 c2, .slice a3 n3 c3], .int .i64 q] (Go.Sort.grow (redrawn w1 d) os) fun e w'' => e = .returned (.int .i64 (placeD P q)) ∧ ∃ p : Regrown, w'' = Go.Sort.grow (redrawn w1 p.d) p.os := fun d os => Calls.regrown_of (KP.out _ q (hBw.trans ((below_regrown w1 d os).mono hBw.size)))
      clear HO0 hK hq HPI hj
      have B0 := cell_regrown b0
      have B1 := cell_regrown b1
      have B2 := cell_regrown b2
      have Y2 := cell_regrown y2
      have U1 := cell_regrown u1
      have E0 := cell_regrown e0
      go_upto_region 6 with fail
      refine wp_region_quiet_below (by kernel_rfl) (by kernel_rfl) ?_
      repeat (quiet_step (first | exact KJ _ _))
      refine wpQuiet_nil ?_
      intro _ hw'
      obtain ⟨⟨dq, osq⟩, hw''⟩ := hw'
      subst hw''
      obtain ⟨W2, hW2⟩ : ∃ W2, W2 = Go.Sort.grow (redrawn w1 dq) osq := ⟨_, rfl⟩
      have hB2 : Below w1.heap.size w1 W2 := by rw [hW2]; exact below_regrown w1 dq osq
      rw [← hW2]
      clear hW2
      go_wp2_with fail
      go_ret
      exact ⟨by rw [HO.out]; first | done | rfl, hBw.trans (hB2.mono hBw.size)⟩
    · have HO : Hid (R = -1) := by show R = _; rw [HO0.out, objV_thing hN hK, ← HN.out.2.2.2, if_neg hl]
      clear HO0 hK
      go_wp2_with fail
      go_ret
      exact ⟨by rw [HO.out]; rfl, hBw⟩
  · by_cases hl : N < (n2 : Int)
    · obtain ⟨M, hM⟩ : ∃ M, M = places P P.stmts.length := ⟨_, rfl⟩
      have HO : Hid (R = (M : Int) + N) := by show R = _; rw [HO0.out, objV_fun hN hK, ← HN.out.2.1, if_pos hl, hM]
      have hMb : M ≤ 2000000 := by rw [hM]; exact HPS.out.1
      have hNb := HPS.out.2
      have hwr : IntKind.i64.wrap ((M : Int) + N) = (M : Int) + N := by rw [IntKind.wrap_i64]; omega
      have KJ : ∀ d os, Calls Tryz.prog 43 #[.agg #[.slice a1 n1 c1, .slice a2 n2 c2, .slice a3 n3 c3]] (Go.Sort.grow (redrawn w1 d) os) fun e w'' => e = .returned (.int .i64 (M : Int)) ∧ ∃ p : Regrown, w'' = Go.Sort.grow (redrawn w1 p.d) p.os := fun d os => by
        have := KN.out _ (hBw.trans ((below_regrown w1 d os).mono hBw.size))
        rw [← hM] at this
        exact Calls.regrown_of this
      clear HO0 hK hM
      have B0 := cell_regrown b0
      have B1 := cell_regrown b1
      have B2 := cell_regrown b2
      have U1 := cell_regrown u1
      go_upto_region 8 with fail
      refine wp_region_quiet_below (by kernel_rfl) (by kernel_rfl) ?_
      repeat (quiet_step (first | exact KJ _ _))
      refine wpQuiet_nil ?_
      intro _ hw'
      obtain ⟨⟨dq, osq⟩, hw''⟩ := hw'
      subst hw''
      obtain ⟨W2, hW2⟩ : ∃ W2, W2 = Go.Sort.grow (redrawn w1 dq) osq := ⟨_, rfl⟩
      have hB2 : Below w1.heap.size w1 W2 := by rw [hW2]; exact below_regrown w1 dq osq
      rw [← hW2]
      clear hW2
      go_wp2_with fail
      go_ret
      exact ⟨by rw [HO.out]; first | done | rfl, hBw.trans (hB2.mono hBw.size)⟩
    · have HO : Hid (R = -1) := by show R = _; rw [HO0.out, objV_fun hN hK, ← HN.out.2.1, if_neg hl]
      clear HO0 hK
      go_wp2_with fail
      go_ret
      exact ⟨by rw [HO.out]; rfl, hBw⟩
  · have HO : Hid (R = -1) := by show R = _; rw [HO0.out]; exact objV_none hK
    clear HO0 hK
    go_wp2_with fail
    go_ret
    exact ⟨by rw [HO.out]; rfl, hBw⟩
end Go.Proofs.YteekjigaicmohaaGreatDoor

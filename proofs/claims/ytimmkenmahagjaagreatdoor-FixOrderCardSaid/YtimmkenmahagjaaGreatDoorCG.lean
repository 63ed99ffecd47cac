/-
  Package cons: check, by a contract.
-/
import Derived.Test.YtimmkenmahagjaaGreatDoorCF
namespace Go.Proofs.YtimmkenmahagjaaGreatDoor
open Go.RowKit Go.Extern.Stop Go.Stop Go.Extern

set_option maxRecDepth 100000 in
set_option maxHeartbeats 8000000 in
theorem checkC_any (a : Nat → Addr) (P : ProgD) (v1 v2 v3 hv : Value) (hs : List (List Int)) (w : World) (hS : SmallP P) (h : IsProg w v1 v2 v3 P) (hH : IsSets w hv hs) (hE : Errs5 w a) (h3 : Three w a) (hn : hs.length ≤ 1000000) (hl : ∀ j, j < hs.length → (hs.getD j []).length ≤ 1000000) :
    Calls Tryz.prog 49 #[.agg #[v1, v2, v3], hv] w fun e w' => ∃ v, e = .returned v ∧ ErrV w' a (consE P hs) v ∧ Below w.heap.size w w' := by
  have H : Hid (IsProg w v1 v2 v3 P) := h
  have HE : Hid (Errs5 w a ∧ Three w a ∧ SmallP P) := ⟨hE, h3, hS⟩
  obtain ⟨⟨a1, c1, rfl, -, -⟩, ⟨a2, c2, rfl, -, -⟩, ⟨a3, c3, rfl, -, -⟩⟩ := h
  obtain ⟨ha, hc, rfl, hrow⟩ := hH
  obtain ⟨n1, hn1⟩ : ∃ m, m = P.vars.length := ⟨_, rfl⟩
  obtain ⟨n2, hn2⟩ : ∃ m, m = P.funs.length := ⟨_, rfl⟩
  obtain ⟨n3, hn3⟩ : ∃ m, m = P.stmts.length := ⟨_, rfl⟩
  obtain ⟨n, hnn⟩ : ∃ m, m = hs.length := ⟨_, rfl⟩
  have HN : Hid (n1 = P.vars.length ∧ n2 = P.funs.length ∧ n3 = P.stmts.length ∧ n = hs.length) := ⟨hn1, hn2, hn3, hnn⟩
  rw [← hn1, ← hn2, ← hn3] at H ⊢
  rw [← hnn] at hn hl hrow ⊢
  obtain ⟨W, hW⟩ : ∃ W, W = w.alloc (.cells #[.slice a1 n1 c1, .slice a2 n2 c2, .slice a3 n3 c3] 26) := ⟨_, rfl⟩
  have hBW : Below w.heap.size w W := by rw [hW]; exact below1 w _
  have HX : Hid (Box3 W w.heap.size (.slice a1 n1 c1) (.slice a2 n2 c2) (.slice a3 n3 c3)) := by show Box3 _ _ _ _ _; rw [hW]; exact box3_new w _ _ _ _
  have KC : Hid (Calls Tryz.prog 35 #[.agg #[.slice a1 n1 c1, .slice a2 n2 c2, .slice a3 n3 c3]] W fun e w' => ∃ v', e = .returned v' ∧ ErrV w' a (checkE P) v' ∧ Below W.heap.size W w') := check_any a P _ _ _ W hS (H.out.below hBW) (hE.below hBW)
  have KS : Hid (∀ wx, Below w.heap.size w wx → ∀ j, j < n → ∃ b o x, ha = some ⟨b, o, none⟩ ∧ wx.cell? ⟨b, o + j, none⟩ = some x ∧ ∀ M, Calls Tryz.prog 78 #[x, .int .i64 M] wx fun e w' => e = .returned (errV a (oneE M (hs.getD j []))) ∧ Below wx.heap.size wx w') := fun wx hwx j hj => by
    obtain ⟨b, o, x, e1, e2, e3⟩ := hrow j hj
    exact ⟨b, o, x, e1, cell_keep hwx e2, fun M => checkSet_any a M _ x wx (hl j hj) (e3.below hwx) (h3.below hwx)⟩
  rw [hW] at KC
  clear hn1 hn2 hn3 hnn hE h3 hS hrow hl
  go_enter Tryz.func49, Tryz.ntmps49
  go_wp2_with fail
  refine KC.out.mono ?_
  rintro e w1 ⟨v', rfl, hv, hB1⟩
  rw [← hW] at hB1
  clear KC hW
  have hB1w : Below w.heap.size w w1 := hBW.trans (hB1.mono hBW.size)
  obtain ⟨p0, p1, p2⟩ := HX.out.below hB1
  rcases hv.cases with ⟨h1, rfl⟩ | ⟨h1, t, x, rfl⟩
  · have hck : checkE P = none := Option.isNone_iff_eq_none.1 h1
    have HCK : Hid (checkE P = none) := hck
    obtain ⟨M, hM⟩ : ∃ M, M = places P P.stmts.length := ⟨_, rfl⟩
    have KN : Hid (Calls Tryz.prog 26 #[.agg #[.slice a1 n1 c1, .slice a2 n2 c2, .slice a3 n3 c3]] w1 fun e w' => e = .returned (.int .i64 (M : Int)) ∧ Below w1.heap.size w1 w') := by
      have := nodes_any a P _ _ _ w1 HE.out.2.2 (H.out.below hB1w) (HE.out.1.below hB1w)
      rw [show nodesD P = (M : Int) by unfold nodesD; rw [hck, hM]; rfl] at this
      exact this
    have HM : Hid (M = places P P.stmts.length) := hM
    have hMb : M ≤ 200 := by
      obtain ⟨q1, q2, q3⟩ := right_small hck
      have := places_le P P.stmts.length
      omega
    clear hv hck hM h1 hB1
    go_wp2_with fail
    refine KN.out.mono ?_
    rintro e w2 ⟨rfl, hB2⟩
    have hB2w : Below w.heap.size w w2 := hB1w.trans (hB2.mono hB1w.size)
    replace p0 := cell_keep hB2 p0
    replace p1 := cell_keep hB2 p1
    replace p2 := cell_keep hB2 p2
    by_cases hlen : n = M
    · subst hlen
      have KO : Hid (Calls Tryz.prog 24 #[.agg #[.slice a1 n1 c1, .slice a2 n2 c2, .slice a3 n3 c3]] w2 fun e w' => e = .returned (.int .i64 (objD P)) ∧ Below w2.heap.size w2 w') := objects_any a P _ _ _ w2 HE.out.2.2 (H.out.below hB2w) (HE.out.1.below hB2w)
      obtain ⟨O, hO⟩ : ∃ O, O = objD P := ⟨_, rfl⟩
      rw [← hO] at KO
      have HO : Hid (consE P hs = setsE O 0 hs) := by
        show _ = _
        unfold consE
        rw [HCK.out]
        dsimp only
        rw [if_pos (by rw [← HN.out.2.2.2, HM.out]), hO]
        congr 1
        unfold objD
        rw [HCK.out]
        rfl
      clear hO KN hB2
      go_wp2_with fail
      refine KO.out.mono ?_
      rintro e w3 ⟨rfl, hB3⟩
      have hB3w : Below w.heap.size w w3 := hB2w.trans (hB3.mono hB2w.size)
      clear hB3 p0 p1 p2 KO
      go_wp2_with fail
      go_loopw [25] (fun t wr => ∃ k : Nat, k ≤ n ∧ t = .int .i64 k ∧ setsE O k (hs.drop k) = setsE O 0 hs ∧ Below w.heap.size w wr) (fun t _ => (n - intOf t).toNat)
      case atStart => exact ⟨0, Nat.zero_le _, rfl, rfl, hB3w⟩
      case round =>
        obtain ⟨k, hk, rfl, heq, hwr⟩ := hrel
        by_cases hlt : k < n
        · obtain ⟨b, o, x, rfl, e0, hcs⟩ := KS.out wr hwr k hlt
          have hki : (k : Int) < n := by omega
          have hstep := setsE_drop O hs k (by rw [← HN.out.2.2.2]; exact hlt)
          rw [heq] at hstep
          obtain ⟨E, hEe⟩ : ∃ E, E = oneE O (hs.getD k []) := ⟨_, rfl⟩
          rw [← hEe] at hstep
          have HC : Hid (Calls Tryz.prog 78 #[x, .int .i64 O] wr fun e w' => e = .returned (errV a E) ∧ Below wr.heap.size wr w') := by rw [hEe]; exact hcs O
          have HST : Hid (setsE O 0 hs = atE k E (setsE O (k + 1) (hs.drop (k + 1)))) := hstep
          clear heq hstep hEe hcs
          go_wp2_with fail
          refine HC.out.mono ?_
          rintro e w4 ⟨rfl, hB4⟩
          have hB4w : Below w.heap.size w w4 := hwr.trans (hB4.mono hwr.size)
          clear HC e0
          cases E with
          | none =>
            unfold errV
            go_wp2_with fail
            go_roundw
            case rel => exact ⟨k + 1, hlt, by go_num, HST.out.symm, hB4w⟩
            case measure => simp [intOf]; omega
          | some c =>
            unfold errV
            go_wp2_with fail
            go_ret
            refine ⟨_, rfl, ?_, hB4w.alloc hB4w.size _⟩
            rw [HO.out, HST.out]
            exact Or.inr (Or.inr ⟨c, k, w4.heap.size, 0, rfl, by omega, rfl, by simp, by simp⟩)
        · have hkn : k = n := by omega
          subst hkn
          have HQ : Hid (setsE O 0 hs = none) := by
            show _ = _
            rw [← heq, List.drop_of_length_le (by rw [HN.out.2.2.2]; exact Nat.le_refl _)]
            rfl
          clear heq
          go_wp2_with fail
          go_ret
          exact ⟨_, rfl, Or.inl ⟨by rw [HO.out, HQ.out], rfl⟩, hwr⟩
    · have hc2 := (HE.out.1.below hB2w).c2
      have hlen' : ¬ ((n : Int) = (M : Int)) := by omega
      have HO : Hid (consE P hs = some (2, -1)) := by
        show _ = _
        unfold consE
        rw [HCK.out]
        dsimp only
        rw [if_neg (by rw [← HN.out.2.2.2, ← HM.out]; exact hlen)]
      go_wp2_with fail
      go_ret
      exact ⟨_, rfl, Or.inr (Or.inl ⟨2, HO.out, rfl⟩), hB2w⟩
  · have HV : Hid (ErrV w1 a (consE P hs) (.iface t (.pointer (some x)))) := by
      show ErrV _ _ _ _
      unfold consE
      cases e : checkE P with
      | none => rw [e] at h1; cases h1
      | some q => rw [e] at hv; exact hv
    clear hv h1
    go_wp2_with fail
    go_ret
    exact ⟨_, rfl, HV.out, hB1w⟩
end Go.Proofs.YtimmkenmahagjaaGreatDoor

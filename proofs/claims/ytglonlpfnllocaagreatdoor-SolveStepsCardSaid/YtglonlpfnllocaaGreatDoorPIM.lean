/-
  Package prog: Check, by a contract.
-/
import Derived.Test.YtglonlpfnllocaaGreatDoorPHM
namespace Go.Proofs.YtglonlpfnllocaaGreatDoor
open Go.RowKit Go.Extern.Stop Go.Stop Go.Extern

/-- The value of an error: nil, one of the eleven, or an *api.Fault that holds one of them and the place. -/
def ErrV (w : World) (a : Nat → Addr) (e : ErrD) (v : Value) : Prop :=
  (e = none ∧ v = .nilIface) ∨ (∃ i, e = some (i, -1) ∧ v = .iface 221 (.pointer (some (a i)))) ∨
    (∃ i n b o, e = some (i, n) ∧ 0 ≤ n ∧ v = .iface 81 (.pointer (some ⟨b, o, none⟩)) ∧ w.cell? ⟨b, o, none⟩ = some (.int .i64 n) ∧ w.cell? ⟨b, o + 1, none⟩ = some (.iface 221 (.pointer (some (a i)))))
theorem ErrV.below {w w' : World} {a : Nat → Addr} {e : ErrD} {v : Value} (h : ErrV w a e v) (hb : Below w.heap.size w w') : ErrV w' a e v := by
  rcases h with h | h | ⟨i, n, b, o, h1, h2, h3, h4, h5⟩
  · exact Or.inl h
  · exact Or.inr (Or.inl h)
  · exact Or.inr (Or.inr ⟨i, n, b, o, h1, h2, h3, cell_keep hb h4, cell_keep hb h5⟩)

def thenE : Option Nat → ErrD → ErrD
  | some e, _ => some (e, -1)
  | none, r => r
def atE (k : Nat) : Option Nat → ErrD → ErrD
  | some e, _ => some (e, (k : Int))
  | none, r => r
theorem stmtsE_drop (P : ProgD) (k : Nat) (h : k < P.stmts.length) (j : Nat) : stmtsE P j (P.stmts.drop k) = atE j (stmtE P (P.stmts.getD k default)) (stmtsE P (j + 1) (P.stmts.drop (k + 1))) := by
  have e : P.stmts.getD k default = P.stmts[k] := by simp [List.getD, h]
  rw [List.drop_eq_getElem_cons h, stmtsE, e]
  cases stmtE P P.stmts[k] <;> rfl
theorem checkE_eq (P : ProgD) (h : fullB P = false) : checkE P = thenE (namesE P.vars (fnames P)) (thenE (funsE P) (stmtsE P 0 P.stmts)) := by
  unfold checkE
  rw [h]
  cases namesE P.vars (fnames P) with
  | some e => rfl
  | none => cases funsE P <;> rfl

/-- What lies in the box of a program. -/
def Box3 (w : World) (b : Nat) (v1 v2 v3 : Value) : Prop := w.cell? ⟨b, 0, none⟩ = some v1 ∧ w.cell? ⟨b, 1, none⟩ = some v2 ∧ w.cell? ⟨b, 2, none⟩ = some v3
theorem Box3.below {w w' : World} {b : Nat} {v1 v2 v3 : Value} (h : Box3 w b v1 v2 v3) (hb : Below w.heap.size w w') : Box3 w' b v1 v2 v3 := ⟨cell_keep hb h.1, cell_keep hb h.2.1, cell_keep hb h.2.2⟩
theorem box3_new (w : World) (v1 v2 v3 : Value) (t : TypeId) : Box3 (w.alloc (.cells #[v1, v2, v3] t)) w.heap.size v1 v2 v3 := ⟨by simp, by simp, by simp⟩

/-- Behind the check of the names. -/
def Mid1 (a : Nat → Addr) (w wx : World) (v1 v2 v3 : Value) (e : Option Nat) (s3 : Value) : Prop := s3 = errV a e ∧ Below w.heap.size w wx ∧ Box3 wx w.heap.size v1 v2 v3

set_option maxHeartbeats 4000000 in
theorem check_any (a : Nat → Addr) (P : ProgD) (v1 v2 v3 : Value) (w : World) (hs : SmallP P) (h : IsProg w v1 v2 v3 P) (hE : Errs5 w a) :
    Calls Tryz.prog 15 #[.agg #[v1, v2, v3]] w fun e w' => ∃ v', e = .returned v' ∧ ErrV w' a (checkE P) v' ∧ Below w.heap.size w w' := by
  have H : Hid (IsProg w v1 v2 v3 P) := h
  have HE : Hid (Errs5 w a) := hE
  have HS : Hid (SmallP P) := hs
  obtain ⟨⟨a1, c1, rfl, -, -⟩, ⟨a2, c2, rfl, -, -⟩, ⟨a3, c3, rfl, -, -⟩⟩ := h
  have hs1 := hs.1
  have hs2 := hs.2.1
  have hs3 := hs.2.2.1
  clear hE hs
  obtain ⟨E, hEe⟩ : ∃ E, E = checkE P := ⟨_, rfl⟩
  rw [← hEe]
  have QE : Hid (E = checkE P) := hEe
  clear hEe
  generalize hn1 : P.vars.length = n1 at *
  generalize hn2 : P.funs.length = n2 at *
  generalize hn3 : P.stmts.length = n3 at *
  have HN : Hid (P.vars.length = n1 ∧ P.funs.length = n2 ∧ P.stmts.length = n3) := ⟨hn1, hn2, hn3⟩
  clear hn1 hn2 hn3
  by_cases f1 : 40 < (n1 : Int)
  · have hX : Hid (E = some (7, -1)) := by
      show E = _
      rw [QE.out]; unfold checkE fullB
      rw [HN.out.1, HN.out.2.1, HN.out.2.2, decide_eq_true (show 40 < n1 by omega)]; rfl
    have e7 := fun o => (HE.out.below (below1 w o)).c7
    go_enter Tryz.func15, Tryz.ntmps15
    go_wp2_with fail
    go_ret
    exact ⟨_, rfl, Or.inr (Or.inl ⟨7, hX.out, rfl⟩), below1 w _⟩
  by_cases f2 : 6 < (n2 : Int)
  · have hX : Hid (E = some (7, -1)) := by
      show E = _
      rw [QE.out]; unfold checkE fullB
      rw [HN.out.1, HN.out.2.1, HN.out.2.2, decide_eq_true (show 6 < n2 by omega)]; simp
    have e7 := fun o => (HE.out.below (below1 w o)).c7
    go_enter Tryz.func15, Tryz.ntmps15
    go_wp2_with fail
    go_ret
    exact ⟨_, rfl, Or.inr (Or.inl ⟨7, hX.out, rfl⟩), below1 w _⟩
  by_cases f3 : 80 < (n3 : Int)
  · have hX : Hid (E = some (7, -1)) := by
      show E = _
      rw [QE.out]; unfold checkE fullB
      rw [HN.out.1, HN.out.2.1, HN.out.2.2, decide_eq_true (show 80 < n3 by omega)]; simp
    have e7 := fun o => (HE.out.below (below1 w o)).c7
    go_enter Tryz.func15, Tryz.ntmps15
    go_wp2_with fail
    go_ret
    exact ⟨_, rfl, Or.inr (Or.inl ⟨7, hX.out, rfl⟩), below1 w _⟩
  have hX0 : checkE P = thenE (namesE P.vars (fnames P)) (thenE (funsE P) (stmtsE P 0 P.stmts)) := by
    refine checkE_eq P ?_
    unfold fullB
    rw [HN.out.1, HN.out.2.1, HN.out.2.2, decide_eq_false (show ¬ 40 < n1 by omega), decide_eq_false (show ¬ 6 < n2 by omega), decide_eq_false (show ¬ 80 < n3 by omega)]; rfl
  obtain ⟨E1, hE1⟩ : ∃ E1, E1 = namesE P.vars (fnames P) := ⟨_, rfl⟩
  obtain ⟨E2, hE2⟩ : ∃ E2, E2 = funsE P := ⟨_, rfl⟩
  rw [← QE.out, ← hE1, ← hE2] at hX0
  have Q0 : Hid (E = thenE E1 (thenE E2 (stmtsE P 0 P.stmts))) := hX0
  have Q1 : Hid (E1 = namesE P.vars (fnames P)) := hE1
  have Q2 : Hid (E2 = funsE P) := hE2
  clear hX0 hE1 hE2
  have hfl : (fnames P).length = n2 := by unfold fnames; rw [List.length_map]; exact HN.out.2.1
  have CF : Hid (∀ wx, Below w.heap.size w wx → Box3 wx w.heap.size (.slice a1 n1 c1) (.slice a2 n2 c2) (.slice a3 n3 c3) → Calls Tryz.prog 35 #[.agg #[.slice a1 n1 c1, .slice a2 n2 c2, .slice a3 n3 c3]] wx fun e w' =>
      ∃ av cv, e = .returned (.slice av n2 cv) ∧ IsStrs w' (.slice av n2 cv) (fnames P) ∧ Below w.heap.size w w' ∧ w'.cell? ⟨w.heap.size, 0, none⟩ = some (.slice a1 n1 c1) ∧ w'.cell? ⟨w.heap.size, 1, none⟩ = some (.slice a2 n2 c2) ∧ w'.cell? ⟨w.heap.size, 2, none⟩ = some (.slice a3 n3 c3)) := fun wx hB hb => by
    refine (funNames_any P _ _ _ wx (by rw [HN.out.2.1]; omega) (H.out.below hB)).mono ?_
    rintro e w' ⟨v', rfl, hv, hB'⟩
    obtain ⟨av, cv, hvv, _⟩ := id hv
    rw [hfl] at hvv
    subst hvv
    have hb' := hb.below hB'
    exact ⟨av, cv, rfl, hv, hB.trans (hB'.mono hB.size), hb'.1, hb'.2.1, hb'.2.2⟩
  have CN : Hid (∀ wx av cv, Below w.heap.size w wx → IsStrs wx (.slice av n2 cv) (fnames P) → Box3 wx w.heap.size (.slice a1 n1 c1) (.slice a2 n2 c2) (.slice a3 n3 c3) → Calls Tryz.prog 34 #[.slice a1 n1 c1, .slice av n2 cv] wx fun e w' =>
      e = .returned (errV a E1) ∧ Below w.heap.size w w' ∧ Box3 w' w.heap.size (.slice a1 n1 c1) (.slice a2 n2 c2) (.slice a3 n3 c3)) := fun wx av cv hB hv hb => by
    refine (checkNames_any a P.vars (fnames P) _ _ wx (by rw [HN.out.1]; omega) (by rw [hfl]; omega) (H.out.below hB).vars hv (HE.out.below hB)).mono ?_
    rintro e w' ⟨rfl, hB'⟩
    exact ⟨by rw [Q1.out], hB.trans (hB'.mono hB.size), hb.below hB'⟩
  clear hfl
  go_enter Tryz.func15, Tryz.ntmps15
  go_upto_region 3 with fail
  go_cut [3] (fun s3 wx => Mid1 a w wx (.slice a1 n1 c1) (.slice a2 n2 c2) (.slice a3 n3 c3) E1 s3)
  case first =>
    go_region_with first
      | (go_at_call 35; refine (CF.out _ ?_ ?_).mono ?_; exact (below1 w _).drew; exact box3_new w _ _ _ _; rintro e w' ⟨av, cv, rfl, hv, hB, b0, b1, b2⟩)
      | (go_at_call 34; refine (CN.out _ _ _ ?_ ?_ ?_).mono ?_; exact hB; exact hv; exact ⟨b0, b1, b2⟩; rintro e w'' ⟨rfl, hB2, hb2⟩)
    all_goals (go_wp2_with fail; go_meet)
    all_goals exact ⟨rfl, hB2, hb2⟩
  case rest =>
  obtain ⟨rfl, hB1, b0, b1, b2⟩ := hcut
  clear CF CN
  cases E1 with
  | some e =>
    have hX : Hid (E = some (e, -1)) := Q0.out
    unfold errV
    go_wp2_with fail
    go_ret
    exact ⟨_, rfl, Or.inr (Or.inl ⟨e, hX.out, rfl⟩), hB1⟩
  | none =>
    unfold errV
    go_wp2_with fail
    refine (checkFuns_any a P _ _ _ wc HS.out (H.out.below hB1) (HE.out.below hB1)).mono ?_
    rintro e w2 ⟨rfl, hB2⟩
    have hBw : Below w.heap.size w w2 := hB1.trans (hB2.mono hB1.size)
    have d0 := cell_keep hB2 b0
    have d1 := cell_keep hB2 b1
    have d2 := cell_keep hB2 b2
    rw [← Q2.out]
    clear b0 b1 b2 hB2
    cases E2 with
    | some e =>
      have hX : Hid (E = some (e, -1)) := Q0.out
      unfold errV
      go_wp2_with fail
      go_ret
      exact ⟨_, rfl, Or.inr (Or.inl ⟨e, hX.out, rfl⟩), hBw⟩
    | none =>
      have hX : Hid (E = stmtsE P 0 P.stmts) := Q0.out
      unfold errV
      clear hB1 Q0 Q1 Q2
      have HD : Hid (Box3 w2 w.heap.size (.slice a1 n1 c1) (.slice a2 n2 c2) (.slice a3 n3 c3)) := ⟨d0, d1, d2⟩
      clear d0 d1
      go_wp2_with fail
      clear d2
      go_loopw [41] (fun t wr => ∃ k : Nat, k ≤ n3 ∧ t = .int .i64 k ∧ Below w.heap.size w wr ∧ Box3 wr w.heap.size (.slice a1 n1 c1) (.slice a2 n2 c2) (.slice a3 n3 c3) ∧ E = stmtsE P k (P.stmts.drop k)) (fun t _ => (n3 - intOf t).toNat)
      case atStart => exact ⟨0, Nat.zero_le _, rfl, hBw, HD.out, hX.out⟩
      case round =>
        obtain ⟨k, hk, rfl, hB, ⟨b0, b1, b2⟩, hEk⟩ := hrel
        have HEk : Hid (E = stmtsE P k (P.stmts.drop k)) := hEk
        clear hEk hX HD
        by_cases hlt : k < n3
        · have hl : k < P.stmts.length := by rw [HN.out.2.2]; exact hlt
          have hst := stmtsE_drop P k hl k
          have hmem : P.stmts.getD k default ∈ P.stmts := by simp [List.getD, hl]
          have hHw := H.out.below hB
          obtain ⟨_, _, hv3, _, hst3⟩ := hHw.stmts
          obtain ⟨b, o, ha3, e0⟩ := hst3 k hl
          obtain rfl : a3 = some ⟨b, o, none⟩ := by rw [← ha3]; exact (Value.slice.inj hv3).1
          obtain ⟨z, hze⟩ : ∃ z, z = P.stmts.getD k default := ⟨_, rfl⟩
          rw [← hze] at e0 hst hmem
          have hza := HS.out.2.2.2.2 z hmem
          obtain ⟨pv, q1, q2, q3, q4, hi⟩ := e0
          have HI : Hid (IsCap wr pv z.args) := hi
          obtain ⟨-, pa, pc, rfl, -⟩ := hi
          have HST : Hid (stmtsE P k (P.stmts.drop k) = atE k (stmtE P z) (stmtsE P (k + 1) (P.stmts.drop (k + 1)))) := hst
          have HHW : Hid (IsProg wr (.slice a1 n1 c1) (.slice a2 n2 c2) (.slice (some ⟨b, o, none⟩) n3 c3) P ∧ Errs5 wr a) := ⟨hHw, HE.out.below hB⟩
          have HB3 : Hid (Box3 wr w.heap.size (.slice a1 n1 c1) (.slice a2 n2 c2) (.slice (some ⟨b, o, none⟩) n3 c3)) := ⟨b0, b1, b2⟩
          have hbz : w.heap.size < wr.heap.size := lt_of_cell b0
          have r0 := fun o => cell_keep (below1 wr o) b0
          have r1 := fun o => cell_keep (below1 wr o) b1
          have r2 := fun o => cell_keep (below1 wr o) b2
          clear hst hmem hHw hv3 hst3 ha3 hze hl b0 b1 b2 hBw
          go_wp2_with fail
          refine (checkStmt_any a P z _ _ _ _ _ (by omega) (HHW.out.1.below (below1 wr _)) (HI.out.below (below1 wr _)) (HHW.out.2.below (below1 wr _))).mono ?_
          rintro e w3 ⟨rfl, hB3⟩
          have hBa : Below wr.heap.size wr w3 := (below1 wr _).trans (hB3.mono (below1 wr _).size)
          have hBb : Below w.heap.size w w3 := hB.trans (hBa.mono hB.size)
          have HB4 : Hid (Box3 w3 w.heap.size (.slice a1 n1 c1) (.slice a2 n2 c2) (.slice (some ⟨b, o, none⟩) n3 c3)) := HB3.out.below hBa
          obtain ⟨Z, hZ⟩ : ∃ Z, Z = stmtE P z := ⟨_, rfl⟩
          rw [← hZ] at HST ⊢
          clear hB3 q1 q2 q3 q4 r0 r1 r2 hZ hBa
          cases Z with
          | none =>
            have HX : Hid (E = stmtsE P (k + 1) (P.stmts.drop (k + 1))) := HEk.out.trans HST.out
            unfold errV
            go_wp2_with fail
            go_roundw
            case rel => exact ⟨k + 1, hlt, by go_num, hBb, HB4.out, HX.out⟩
            case measure => simp [intOf]; omega
          | some i =>
            have HX : Hid (E = some (i, (k : Int))) := HEk.out.trans HST.out
            unfold errV
            go_wp2_with fail
            go_ret
            refine ⟨_, rfl, Or.inr (Or.inr ⟨i, k, w3.heap.size, 0, HX.out, by omega, rfl, by simp, by simp⟩), hBb.alloc hBb.size _⟩
        · have HX : Hid (E = none) := by
            show E = none
            rw [HEk.out, List.drop_eq_nil_of_le (by rw [HN.out.2.2]; omega)]; rfl
          clear b0 b1 b2
          go_wp2_with fail
          go_ret
          exact ⟨_, rfl, Or.inl ⟨HX.out, rfl⟩, hB⟩
end Go.Proofs.YtglonlpfnllocaaGreatDoor

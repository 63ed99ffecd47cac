/-
  Package cons: what check tells of sets, by a contract.
-/
import Derived.Test.YtglonlpfnllocaaGreatDoorXTM
import Derived.Test.YtglonlpfnllocaaGreatDoorPJOM
namespace Go.Proofs.YtglonlpfnllocaaGreatDoor
open Go.RowKit Go.Extern.Stop Go.Stop Go.Extern

def inBb (zs : List Int) : Bool := (List.range zs.length).all fun j => decide (0 ≤ zs.getD j 0 ∧ zs.getD j 0 < 1000)
def riseb (zs : List Int) : Bool := (List.range (zs.length - 1)).all fun j => decide (zs.getD j 0 < zs.getD (j + 1) 0)
theorem inBb_iff (zs : List Int) : inBb zs = true ↔ InB zs := by
  unfold inBb InB
  simp only [List.all_eq_true, List.mem_range, decide_eq_true_eq]
theorem riseb_iff (zs : List Int) : riseb zs = true ↔ Rise zs := by
  unfold riseb Rise
  simp only [List.all_eq_true, List.mem_range, decide_eq_true_eq]
  constructor
  · intro h j hj; exact h j (by omega)
  · intro h j hj; exact h j (by omega)
def lastTooB (M : Int) (zs : List Int) : Bool := decide (0 < zs.length) && decide (M ≤ zs.getD (zs.length - 1) 0)
/-- The error of one set, of M objects. -/
def oneE (M : Int) (zs : List Int) : Option Nat := if !inBb zs then some 1 else if !riseb zs then some 9 else if lastTooB M zs then some 1 else none
def setsE (M : Int) : Nat → List (List Int) → ErrD
  | _, [] => none
  | k, zs :: r => match oneE M zs with
    | some c => some (c, (k : Int))
    | none => setsE M (k + 1) r
def consE (P : ProgD) (hs : List (List Int)) : ErrD := match checkE P with
  | some e => some e
  | none => if hs.length = places P P.stmts.length then setsE ((places P P.stmts.length + P.funs.length : Nat) : Int) 0 hs else some (2, -1)
theorem setsE_drop (M : Int) (hs : List (List Int)) (k : Nat) (hk : k < hs.length) : setsE M k (hs.drop k) = atE k (oneE M (hs.getD k [])) (setsE M (k + 1) (hs.drop (k + 1))) := by
  have : hs.drop k = hs.getD k [] :: hs.drop (k + 1) := by
    rw [List.drop_eq_getElem_cons hk]
    simp [List.getD, hk]
  rw [this]
  show (match oneE M (hs.getD k []) with | some c => some (c, (k : Int)) | none => setsE M (k + 1) (hs.drop (k + 1))) = _
  cases oneE M (hs.getD k []) <;> rfl
theorem oneE_none {M : Int} {zs : List Int} (h : oneE M zs = none) : IsSet zs ∧ ∀ i, i < zs.length → zs.getD i 0 < M := by
  unfold oneE at h
  split at h
  · cases h
  · rename_i h1
    split at h
    · cases h
    · rename_i h2
      split at h
      · cases h
      · rename_i h3
        have hin : InB zs := (inBb_iff zs).1 (by simpa using h1)
        have hr : Rise zs := (riseb_iff zs).1 (by simpa using h2)
        refine ⟨⟨hin, hr⟩, fun i hi => ?_⟩
        have hl : zs.getD (zs.length - 1) 0 < M := by
          unfold lastTooB at h3
          simp at h3
          have := h3 (by omega)
          rw [List.getD_eq_getElem?_getD]
          omega
        have hup : ∀ d, i + d < zs.length → zs.getD i 0 ≤ zs.getD (i + d) 0 := by
          intro d
          induction d with
          | zero => intro _; exact Int.le_refl _
          | succ d ih =>
            intro hd
            have h4 := ih (by omega)
            have h5 := hr (i + d) (by omega)
            rw [show i + (d + 1) = i + d + 1 by omega]
            omega
        have := hup (zs.length - 1 - i) (by omega)
        rw [show i + (zs.length - 1 - i) = zs.length - 1 by omega] at this
        omega
theorem setsE_none {M : Int} : ∀ (hs : List (List Int)) (k : Nat), setsE M k hs = none → ∀ j, j < hs.length → oneE M (hs.getD j []) = none
  | [], _, _, j, hj => by simp at hj
  | zs :: r, k, h, j, hj => by
    unfold setsE at h
    cases e : oneE M zs with
    | some c => rw [e] at h; cases h
    | none =>
      rw [e] at h
      cases j with
      | zero => simpa [List.getD] using e
      | succ j => simpa [List.getD] using setsE_none r (k + 1) h j (by simpa using hj)
theorem consE_ok {P : ProgD} {hs : List (List Int)} (h : consE P hs = none) : checkE P = none ∧ SetsOk P hs := by
  unfold consE at h
  split at h
  · cases h
  · rename_i hc
    split at h
    · rename_i hl
      refine ⟨hc, ⟨hl, fun j hj => (oneE_none (setsE_none hs 0 h j hj)).1, fun j hj i hi => ?_⟩⟩
      have := (oneE_none (setsE_none hs 0 h j hj)).2 i hi
      rw [hl]
      omega
    · cases h

set_option maxHeartbeats 4000000 in
theorem checkSet_any (a : Nat → Addr) (M : Int) (zs : List Int) (v : Value) (w : World) (hm : zs.length ≤ 1000000) (h : IsInts w v zs) (h3 : Three w a) :
    Calls Tryz.prog 119 #[v, .int .i64 M] w fun e w' => e = .returned (errV a (oneE M zs)) ∧ Below w.heap.size w w' := by
  have H : Hid (IsInts w v zs ∧ Three w a) := ⟨h, h3⟩
  obtain ⟨E, hE⟩ : ∃ E, E = oneE M zs := ⟨_, rfl⟩
  rw [← hE]
  have HE : Hid (E = oneE M zs) := hE
  clear hE
  by_cases g1 : inBb zs = true
  · by_cases g2 : riseb zs = true
    · have K : Hid _ := check_ok zs v w hm h ((inBb_iff zs).1 g1) ((riseb_iff zs).1 g2)
      have HX : Hid (E = if lastTooB M zs then some 1 else none) := by show E = _; rw [HE.out]; unfold oneE; rw [g1, g2]; rfl
      obtain ⟨va, vc, rfl⟩ := isInts_form h
      obtain ⟨n, hn⟩ : ∃ n, n = zs.length := ⟨_, rfl⟩
      have HN : Hid (n = zs.length) := hn
      rw [← hn] at K hm ⊢
      clear h h3 g1 g2 hn
      go_enter Tryz.func119, Tryz.ntmps119
      go_wp2_with fail
      refine Calls.mono K.out ?_
      rintro e w1 ⟨rfl, hB1⟩
      by_cases h0 : n = 0
      · have hE0 : Hid (E = none) := by
          show E = _
          rw [HX.out]; unfold lastTooB; rw [← HN.out, h0]; rfl
        subst h0
        go_wp2_with fail
        go_ret
        exact ⟨by rw [hE0.out]; rfl, hB1⟩
      · obtain ⟨m, rfl⟩ : ∃ m, n = m + 1 := ⟨n - 1, by omega⟩
        obtain ⟨b, o, rfl, e0⟩ := isInts_at (H.out.1.below hB1) m (by rw [← HN.out]; omega)
        have hwrap : IntKind.i64.wrap (((m + 1 : Nat) : Int) - 1) = (m : Int) := by rw [IntKind.wrap_i64]; omega
        obtain ⟨z, hz⟩ : ∃ z, z = zs.getD m 0 := ⟨_, rfl⟩
        rw [← hz] at e0
        have hp : (0 : Int) < ((m + 1 : Nat) : Int) := by omega
        have hmi : (m : Int) < ((m + 1 : Nat) : Int) := by omega
        have HEM : Hid (E = if M ≤ z then some 1 else none) := by
          show E = _
          rw [HX.out]; unfold lastTooB; rw [← HN.out, hz]
          simp
        have hb := (H.out.2.below hB1).c1
        clear hz h0
        by_cases hM : M ≤ z
        · have hX : Hid (E = some 1) := by show E = _; rw [HEM.out, if_pos hM]
          go_wp2_with fail
          go_ret
          exact ⟨by rw [hX.out]; rfl, hB1⟩
        · have hX : Hid (E = none) := by show E = _; rw [HEM.out, if_neg hM]
          go_wp2_with fail
          go_ret
          exact ⟨by rw [hX.out]; rfl, hB1⟩
    · have K : Hid _ := check_order a zs v w hm h ((inBb_iff zs).1 g1) (fun q => g2 ((riseb_iff zs).2 q)) h3
      have hX : Hid (E = some 9) := by show E = _; rw [HE.out]; unfold oneE; rw [g1]; simp [g2]
      clear h h3 g1 g2
      go_enter Tryz.func119, Tryz.ntmps119
      go_wp2_with fail
      refine Calls.mono K.out ?_
      rintro e w1 ⟨rfl, hB1⟩
      go_wp2_with fail
      go_ret
      exact ⟨by rw [hX.out]; rfl, hB1⟩
  · have K : Hid _ := check_bound a zs v w hm h (fun q => g1 ((inBb_iff zs).2 q)) h3
    have hX : Hid (E = some 1) := by show E = _; rw [HE.out]; unfold oneE; simp [g1]
    clear h h3 g1
    go_enter Tryz.func119, Tryz.ntmps119
    go_wp2_with fail
    refine Calls.mono K.out ?_
    rintro e w1 ⟨rfl, hB1⟩
    go_wp2_with fail
    go_ret
    exact ⟨by rw [hX.out]; rfl, hB1⟩
end Go.Proofs.YtglonlpfnllocaaGreatDoor

/-
  Package cons: check, by a contract.
-/
namespace Go.Proofs.YtglonlpfnllocaaGreatDoor
open Go.RowKit Go.Extern.Stop Go.Stop Go.Extern

set_option maxRecDepth 100000 in
set_option maxHeartbeats 8000000 in
theorem checkC_any (a : Nat → Addr) (P : ProgD) (v1 v2 v3 hv : Value) (hs : List (List Int)) (w : World) (hS : SmallP P) (h : IsProg w v1 v2 v3 P) (hH : IsSets w hv hs) (hE : Errs5 w a) (h3 : Three w a) (hn : hs.length ≤ 1000000) (hl : ∀ j, j < hs.length → (hs.getD j []).length ≤ 1000000) :
    Calls Tryz.prog 91 #[.agg #[v1, v2, v3], hv] w fun e w' => ∃ v, e = .returned v ∧ ErrV w' a (consE P hs) v ∧ Below w.heap.size w w' := by
  have H : Hid (IsProg w v1 v2 v3 P) := h
  have HE : Hid (Errs5 w a ∧ Three w a ∧ SmallP P) := ⟨hE, h3, hS⟩
  obtain ⟨⟨a1, c1, rfl, -, -⟩, ⟨a2, c2, rfl, -, -⟩, ⟨a3, c3, rfl, -, -⟩⟩ := h
  obtain ⟨ha, hc, rfl, hrow⟩ := hH
  obtain ⟨n1, hn1⟩ : ∃ m, m = P.vars.length := ⟨_, rfl⟩
  obtain ⟨n2, hn2⟩ : ∃ m, m = P.funs.length := ⟨_, rfl⟩
  obtain ⟨n3, hn3⟩ : ∃ m, m = P.stmts.length := ⟨_, rfl⟩
  obtain ⟨n, hnn⟩ : ∃ m, m = hs.length := ⟨_, rfl⟩
  have HN : Hid (n1 = P.vars.length ∧ n2 = P.funs.length ∧ n3 = P.stmts.length ∧ n = hs.length) := ⟨hn1, hn2, hn3, hnn⟩
  rw [← hn1, ← hn2, ← hn3] at H ⊢
  rw [← hnn] at hn hl hrow ⊢
  obtain ⟨W, hW⟩ : ∃ W, W = w.alloc (.cells #[.slice a1 n1 c1, .slice a2 n2 c2, .slice a3 n3 c3] 26) := ⟨_, rfl⟩
  have hBW : Below w.heap.size w W := by rw [hW]; exact below1 w _
  have HX : Hid (Box3 W w.heap.size (.slice a1 n1 c1) (.slice a2 n2 c2) (.slice a3 n3 c3)) := by show Box3 _ _ _ _ _; rw [hW]; exact box3_new w _ _ _ _
  have KC : Hid (Calls Tryz.prog 15 #[.agg #[.slice a1 n1 c1, .slice a2 n2 c2, .slice a3 n3 c3]] W fun e w' => ∃ v', e = .returned v' ∧ ErrV w' a (checkE P) v' ∧ Below W.heap.size W w') := check_any a P _ _ _ W hS (H.out.below hBW) (hE.below hBW)
  have KS : Hid (∀ wx, Below w.heap.size w wx → ∀ j, j < n → ∃ b o x, ha = some ⟨b, o, none⟩ ∧ wx.cell? ⟨b, o + j, none⟩ = some x ∧ ∀ M, Calls Tryz.prog 119 #[x, .int .i64 M] wx fun e w' => e = .returned (errV a (oneE M (hs.getD j []))) ∧ Below wx.heap.size wx w') := fun wx hwx j hj => by
    obtain ⟨b, o, x, e1, e2, e3⟩ := hrow j hj
    exact ⟨b, o, x, e1, cell_keep hwx e2, fun M => checkSet_any a M _ x wx (hl j hj) (e3.below hwx) (h3.below hwx)⟩
  rw [hW] at KC
  clear hn1 hn2 hn3 hnn hE h3 hS hrow hl
  go_enter Tryz.func91, Tryz.ntmps91
  go_wp2_with fail
  refine KC.out.mono ?_
  rintro e w1 ⟨v', rfl, hv, hB1⟩
  rw [← hW] at hB1
  clear KC hW
  have hB1w : Below w.heap.size w w1 := hBW.trans (hB1.mono hBW.size)
  obtain ⟨p0, p1, p2⟩ := HX.out.below hB1
  rcases hv.cases with ⟨h1, rfl⟩ | ⟨h1, t, x, rfl⟩
  · have hck : checkE P = none := Option.isNone_iff_eq_none.1 h1
    have HCK : Hid (checkE P = none) := hck
    obtain ⟨M, hM⟩ : ∃ M, M = places P P.stmts.length := ⟨_, rfl⟩
    have KN : Hid (Calls Tryz.prog 27 #[.agg #[.slice a1 n1 c1, .slice a2 n2 c2, .slice a3 n3 c3]] w1 fun e w' => e = .returned (.int .i64 (M : Int)) ∧ Below w1.heap.size w1 w') := by
      have := nodes_any a P _ _ _ w1 HE.out.2.2 (H.out.below hB1w) (HE.out.1.below hB1w)
      rw [show nodesD P = (M : Int) by unfold nodesD; rw [hck, hM]; rfl] at this
      exact this
    have HM : Hid (M = places P P.stmts.length) := hM
    have hMb : M ≤ 200 := by
      obtain ⟨q1, q2, q3⟩ := right_small hck
      have := places_le P P.stmts.length
      omega
    clear hv hck hM h1 hB1
    go_wp2_with fail
    refine KN.out.mono ?_
    rintro e w2 ⟨rfl, hB2⟩
    have hB2w : Below w.heap.size w w2 := hB1w.trans (hB2.mono hB1w.size)
    replace p0 := cell_keep hB2 p0
    replace p1 := cell_keep hB2 p1
    replace p2 := cell_keep hB2 p2
    by_cases hlen : n = M
    · subst hlen
      have KO : Hid (Calls Tryz.prog 118 #[.agg #[.slice a1 n1 c1, .slice a2 n2 c2, .slice a3 n3 c3]] w2 fun e w' => e = .returned (.int .i64 (objD P)) ∧ Below w2.heap.size w2 w') := objects_any a P _ _ _ w2 HE.out.2.2 (H.out.below hB2w) (HE.out.1.below hB2w)
      obtain ⟨O, hO⟩ : ∃ O, O = objD P := ⟨_, rfl⟩
      rw [← hO] at KO
      have HO : Hid (consE P hs = setsE O 0 hs) := by
        show _ = _
        unfold consE
        rw [HCK.out]
        dsimp only
        rw [if_pos (by rw [← HN.out.2.2.2, HM.out]), hO]
        congr 1
        unfold objD
        rw [HCK.out]
        rfl
      clear hO KN hB2
      go_wp2_with fail
      refine KO.out.mono ?_
      rintro e w3 ⟨rfl, hB3⟩
      have hB3w : Below w.heap.size w w3 := hB2w.trans (hB3.mono hB2w.size)
      clear hB3 p0 p1 p2 KO
      go_wp2_with fail
      go_loopw [25] (fun t wr => ∃ k : Nat, k ≤ n ∧ t = .int .i64 k ∧ setsE O k (hs.drop k) = setsE O 0 hs ∧ Below w.heap.size w wr) (fun t _ => (n - intOf t).toNat)
      case atStart => exact ⟨0, Nat.zero_le _, rfl, rfl, hB3w⟩
      case round =>
        obtain ⟨k, hk, rfl, heq, hwr⟩ := hrel
        by_cases hlt : k < n
        · obtain ⟨b, o, x, rfl, e0, hcs⟩ := KS.out wr hwr k hlt
          have hki : (k : Int) < n := by omega
          have hstep := setsE_drop O hs k (by rw [← HN.out.2.2.2]; exact hlt)
          rw [heq] at hstep
          obtain ⟨E, hEe⟩ : ∃ E, E = oneE O (hs.getD k []) := ⟨_, rfl⟩
          rw [← hEe] at hstep
          have HC : Hid (Calls Tryz.prog 119 #[x, .int .i64 O] wr fun e w' => e = .returned (errV a E) ∧ Below wr.heap.size wr w') := by rw [hEe]; exact hcs O
          have HST : Hid (setsE O 0 hs = atE k E (setsE O (k + 1) (hs.drop (k + 1)))) := hstep
          clear heq hstep hEe hcs
          go_wp2_with fail
          refine HC.out.mono ?_
          rintro e w4 ⟨rfl, hB4⟩
          have hB4w : Below w.heap.size w w4 := hwr.trans (hB4.mono hwr.size)
          clear HC e0
          cases E with
          | none =>
            unfold errV
            go_wp2_with fail
            go_roundw
            case rel => exact ⟨k + 1, hlt, by go_num, HST.out.symm, hB4w⟩
            case measure => simp [intOf]; omega
          | some c =>
            unfold errV
            go_wp2_with fail
            go_ret
            refine ⟨_, rfl, ?_, hB4w.alloc hB4w.size _⟩
            rw [HO.out, HST.out]
            exact Or.inr (Or.inr ⟨c, k, w4.heap.size, 0, rfl, by omega, rfl, by simp, by simp⟩)
        · have hkn : k = n := by omega
          subst hkn
          have HQ : Hid (setsE O 0 hs = none) := by
            show _ = _
            rw [← heq, List.drop_of_length_le (by rw [HN.out.2.2.2]; exact Nat.le_refl _)]
            rfl
          clear heq
          go_wp2_with fail
          go_ret
          exact ⟨_, rfl, Or.inl ⟨by rw [HO.out, HQ.out], rfl⟩, hwr⟩
    · have hc2 := (HE.out.1.below hB2w).c2
      have hlen' : ¬ ((n : Int) = (M : Int)) := by omega
      have HO : Hid (consE P hs = some (2, -1)) := by
        show _ = _
        unfold consE
        rw [HCK.out]
        dsimp only
        rw [if_neg (by rw [← HN.out.2.2.2, ← HM.out]; exact hlen)]
      go_wp2_with fail
      go_ret
      exact ⟨_, rfl, Or.inr (Or.inl ⟨2, HO.out, rfl⟩), hB2w⟩
  · have HV : Hid (ErrV w1 a (consE P hs) (.iface t (.pointer (some x)))) := by
      show ErrV _ _ _ _
      unfold consE
      cases e : checkE P with
      | none => rw [e] at h1; cases h1
      | some q => rw [e] at hv; exact hv
    clear hv h1
    go_wp2_with fail
    go_ret
    exact ⟨_, rfl, HV.out, hB1w⟩
end Go.Proofs.YtglonlpfnllocaaGreatDoor

/-
  Package cons: Of, Edges, by contracts.
-/
namespace Go.Proofs.YtglonlpfnllocaaGreatDoor
open Go.RowKit Go.Extern.Stop Go.Stop Go.Extern

theorem keep3C {w0 w : World} {p0 p1 p2 : Addr} {v0 v1 v2 : Value} (k0 : w0.cell? p0 = some v0) (k1 : w0.cell? p1 = some v1) (k2 : w0.cell? p2 = some v2) (hb : Below w0.heap.size w0 w) : Below w0.heap.size w0 w ∧ w.cell? p0 = some v0 ∧ w.cell? p1 = some v1 ∧ w.cell? p2 = some v2 :=
  ⟨hb, cell_keep hb k0, cell_keep hb k1, cell_keep hb k2⟩
set_option maxHeartbeats 4000000 in
theorem of_any (a : Nat → Addr) (P : ProgD) (v1 v2 v3 : Value) (w : World) (hS : SmallP P) (h : IsProg w v1 v2 v3 P) (hE : Errs5 w a) :
    Calls Tryz.prog 25 #[.agg #[v1, v2, v3]] w fun e w' => ∃ v ev, e = .returned (.tuple #[v, ev]) ∧ ((checkE P = none ∧ ev = .nilIface ∧ IsRules w' v (rulesD P)) ∨ ((checkE P).isNone = false ∧ v = .slice none 0 0 ∧ ErrV w' a (checkE P) ev)) ∧ Below w.heap.size w w' := by
  have H : Hid (IsProg w v1 v2 v3 P ∧ Errs5 w a ∧ SmallP P) := ⟨h, hE, hS⟩
  obtain ⟨⟨a1, c1, rfl, -, -⟩, ⟨a2, c2, rfl, -, -⟩, ⟨a3, c3, rfl, -, -⟩⟩ := h
  obtain ⟨n1, hn1⟩ : ∃ m, m = P.vars.length := ⟨_, rfl⟩
  obtain ⟨n2, hn2⟩ : ∃ m, m = P.funs.length := ⟨_, rfl⟩
  obtain ⟨n3, hn3⟩ : ∃ m, m = P.stmts.length := ⟨_, rfl⟩
  rw [← hn1, ← hn2, ← hn3] at H ⊢
  obtain ⟨W, hW⟩ : ∃ W, W = w.alloc (.cells #[.slice a1 n1 c1, .slice a2 n2 c2, .slice a3 n3 c3] 26) := ⟨_, rfl⟩
  have hBW : Below w.heap.size w W := by rw [hW]; exact below1 w _
  have HX : Hid (Box3 W w.heap.size (.slice a1 n1 c1) (.slice a2 n2 c2) (.slice a3 n3 c3)) := by show Box3 _ _ _ _ _; rw [hW]; exact box3_new w _ _ _ _
  have KC : Hid (Calls Tryz.prog 15 #[.agg #[.slice a1 n1 c1, .slice a2 n2 c2, .slice a3 n3 c3]] W fun e w' => ∃ v', e = .returned v' ∧ ErrV w' a (checkE P) v' ∧ Below W.heap.size W w') := check_any a P _ _ _ W hS (H.out.1.below hBW) (hE.below hBW)
  rw [hW] at KC
  clear hn1 hn2 hn3 hE hS
  go_enter Tryz.func25, Tryz.ntmps25
  go_wp2_with fail
  refine KC.out.mono ?_
  rintro e w1 ⟨v', rfl, hv, hB1⟩
  rw [← hW] at hB1
  clear KC hW
  have hB1w : Below w.heap.size w w1 := hBW.trans (hB1.mono hBW.size)
  obtain ⟨p0, p1, p2⟩ := HX.out.below hB1
  rcases hv.cases with ⟨h1, rfl⟩ | ⟨h1, t, x, rfl⟩
  · have hck : checkE P = none := Option.isNone_iff_eq_none.1 h1
    have HCK : Hid (checkE P = none) := hck
    have KR : Hid (Calls Tryz.prog 56 #[.agg #[.slice a1 n1 c1, .slice a2 n2 c2, .slice a3 n3 c3]] w1 fun e w' => ∃ v, e = .returned v ∧ IsRules w' v (rulesD P) ∧ Below w1.heap.size w1 w') := rules_any a P _ _ _ w1 H.out.2.2 hck (H.out.1.below hB1w) (H.out.2.1.below hB1w)
    clear hv hck h1 hB1
    go_wp2_with fail
    refine KR.out.mono ?_
    rintro e w2 ⟨v, rfl, hr2, hB2⟩
    have HR2 : Hid (IsRules w2 v (rulesD P)) := hr2
    clear hr2
    go_wp2_with fail
    go_ret2
    exact ⟨v, _, rfl, Or.inl ⟨HCK.out, rfl, HR2.out⟩, hB1w.trans (hB2.mono hB1w.size)⟩
  · have HV : Hid ((checkE P).isNone = false ∧ ErrV w1 a (checkE P) (.iface t (.pointer (some x)))) := ⟨h1, hv⟩
    clear hv h1
    go_wp2_with fail
    go_ret2
    exact ⟨_, _, rfl, Or.inr ⟨HV.out.1, rfl, HV.out.2⟩, hB1w⟩

/-- What Edges tells. -/
def EdgesPost (a : Nat → Addr) (P : ProgD) (hs : List (List Int)) (w w' : World) (e : Ending) : Prop :=
  ∃ v ev, e = .returned (.tuple #[v, ev]) ∧ ((consE P hs = none ∧ ev = .nilIface ∧ ∃ es, IsPairs w' v es ∧ EdgeSet (foundD P hs) es) ∨ ((consE P hs).isNone = false ∧ v = .slice none 0 0 ∧ ErrV w' a (consE P hs) ev)) ∧ Below w.heap.size w w'
set_option maxRecDepth 100000 in
set_option maxHeartbeats 8000000 in
theorem edges_any (a : Nat → Addr) (P : ProgD) (v1 v2 v3 hv : Value) (hs : List (List Int)) (w : World) (hS : SmallP P) (h : IsProg w v1 v2 v3 P) (hH : IsSets w hv hs) (hE : Errs5 w a) (h3 : Three w a) (hn : hs.length ≤ 1000000) (hl : ∀ j, j < hs.length → (hs.getD j []).length ≤ 1000000) :
    Calls Tryz.prog 65 #[.agg #[v1, v2, v3], hv] w fun e w' => EdgesPost a P hs w w' e := by
  have H : Hid (IsProg w v1 v2 v3 P ∧ Errs5 w a ∧ SmallP P ∧ IsSets w hv hs) := ⟨h, hE, hS, hH⟩
  obtain ⟨⟨a1, c1, rfl, -, -⟩, ⟨a2, c2, rfl, -, -⟩, ⟨a3, c3, rfl, -, -⟩⟩ := h
  obtain ⟨ha, hc, rfl, -⟩ := hH
  obtain ⟨n1, hn1⟩ : ∃ m, m = P.vars.length := ⟨_, rfl⟩
  obtain ⟨n2, hn2⟩ : ∃ m, m = P.funs.length := ⟨_, rfl⟩
  obtain ⟨n3, hn3⟩ : ∃ m, m = P.stmts.length := ⟨_, rfl⟩
  obtain ⟨n, hnn⟩ : ∃ m, m = hs.length := ⟨_, rfl⟩
  rw [← hn1, ← hn2, ← hn3] at H ⊢
  rw [← hnn] at H ⊢
  obtain ⟨W, hW⟩ : ∃ W, W = w.alloc (.cells #[.slice a1 n1 c1, .slice a2 n2 c2, .slice a3 n3 c3] 26) := ⟨_, rfl⟩
  have hBW : Below w.heap.size w W := by rw [hW]; exact below1 w _
  have HX : Hid (Box3 W w.heap.size (.slice a1 n1 c1) (.slice a2 n2 c2) (.slice a3 n3 c3)) := by show Box3 _ _ _ _ _; rw [hW]; exact box3_new w _ _ _ _
  have KC : Hid (Calls Tryz.prog 91 #[.agg #[.slice a1 n1 c1, .slice a2 n2 c2, .slice a3 n3 c3], .slice ha n hc] W fun e w' => ∃ v', e = .returned v' ∧ ErrV w' a (consE P hs) v' ∧ Below W.heap.size W w') := checkC_any a P _ _ _ _ hs W hS (H.out.1.below hBW) (H.out.2.2.2.below hBW) (hE.below hBW) (h3.below hBW) hn hl
  rw [hW] at KC
  clear hn1 hn2 hn3 hE hS hnn hn hl h3
  go_enter Tryz.func65, Tryz.ntmps65
  go_wp2_with fail
  refine KC.out.mono ?_
  rintro e w1 ⟨v', rfl, hv, hB1⟩
  rw [← hW] at hB1
  clear KC hW
  have hB1w : Below w.heap.size w w1 := hBW.trans (hB1.mono hBW.size)
  obtain ⟨p0, p1, p2⟩ := HX.out.below hB1
  rcases hv.cases with ⟨h1, rfl⟩ | ⟨h1, t, x, rfl⟩
  · have hce : consE P hs = none := Option.isNone_iff_eq_none.1 h1
    have HCE : Hid (consE P hs = none) := hce
    obtain ⟨hck, hok⟩ := consE_ok hce
    have KR : Hid (∀ wx, Below w1.heap.size w1 wx → Calls Tryz.prog 56 #[.agg #[.slice a1 n1 c1, .slice a2 n2 c2, .slice a3 n3 c3]] wx fun e w' => ∃ ra rn rc, e = .returned (.slice ra rn rc) ∧ IsRules w' (.slice ra rn rc) (rulesD P) ∧ Below w1.heap.size w1 w') := fun wx hb => by
      have hbw := hB1w.trans (hb.mono hB1w.size)
      refine (rules_any a P _ _ _ wx H.out.2.2.1 hck (H.out.1.below hbw) (H.out.2.1.below hbw)).mono ?_
      rintro e w' ⟨v, rfl, hr, hb'⟩
      have hr' := hr
      obtain ⟨ra, rc, rfl, -⟩ := hr
      exact ⟨ra, _, rc, rfl, hr', hb.trans (hb'.mono hb.size)⟩
    have KD : Hid (∀ wx rv, Below w1.heap.size w1 wx → IsRules wx rv (rulesD P) → Calls Tryz.prog 92 #[.agg #[.slice a1 n1 c1, .slice a2 n2 c2, .slice a3 n3 c3], rv, .slice ha n hc] wx fun e w' => ∃ v es, e = .returned v ∧ IsPairs w' v es ∧ EdgeSet (foundD P hs) es ∧ Below w1.heap.size w1 w') := fun wx rv hb hr => by
      have hbw := hB1w.trans (hb.mono hB1w.size)
      refine (edges_in P _ _ _ rv _ hs wx H.out.2.2.1 hck (H.out.1.below hbw).funs hr (H.out.2.2.2.below hbw) hok).mono ?_
      rintro e w' ⟨v, es, rfl, q1, q2, q3⟩
      exact ⟨v, es, rfl, q1, q2, hb.trans (q3.mono hb.size)⟩
    clear hv hck h1 hB1 hce hok
    go_upto_region 4 with fail
    go_region_held3 (fun wx => Below w1.heap.size w1 wx ∧ wx.cell? ⟨w.heap.size, 0, none⟩ = some (.slice a1 n1 c1) ∧ wx.cell? ⟨w.heap.size, 1, none⟩ = some (.slice a2 n2 c2) ∧ wx.cell? ⟨w.heap.size, 2, none⟩ = some (.slice a3 n3 c3))
      ((go_split_ands; refine keep3C p0 p1 p2 ?_; repeat (with_reducible first | assumption | exact Below.refl _ _ | refine Below.drew ?_)))
      (first
        | (go_at_call 56; refine (KR.out _ ?_).mono ?_; (go_split_ands; assumption); rintro e w5 ⟨ra, rn, rc, rfl, hr5, hb5⟩)
        | (go_at_call 92; refine (KD.out _ _ ?_ ?_).mono ?_; (go_split_ands; assumption); (first | exact hr5 | exact hr5.below (Below.refl _ _).drew); rintro e w6 ⟨v, es, rfl, q1, q2, hb6⟩))
    go_wp2_with fail
    go_ret2
    first
      | exact ⟨v, _, rfl, Or.inl ⟨HCE.out, rfl, es, q1, q2⟩, hB1w.trans (hb6.mono hB1w.size)⟩
      | exact ⟨v, _, rfl, Or.inl ⟨HCE.out, rfl, es, q1.below (Below.refl _ _).drew, q2⟩, (hB1w.trans (hb6.mono hB1w.size)).drew⟩
  · have HV : Hid ((consE P hs).isNone = false ∧ ErrV w1 a (consE P hs) (.iface t (.pointer (some x)))) := ⟨h1, hv⟩
    clear hv h1
    go_wp2_with fail
    go_ret2
    exact ⟨_, _, rfl, Or.inr ⟨HV.out.1, rfl, HV.out.2⟩, hB1w⟩
end Go.Proofs.YtglonlpfnllocaaGreatDoor

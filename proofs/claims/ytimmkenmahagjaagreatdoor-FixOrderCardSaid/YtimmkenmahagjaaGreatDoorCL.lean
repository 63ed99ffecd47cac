/-
  Package cons: edges, by a contract.
-/
import Derived.Test.YtimmkenmahagjaaGreatDoorCR
import Derived.Test.YtimmkenmahagjaaGreatDoorCY
import Derived.Test.YtimmkenmahagjaaGreatDoorSetB
namespace Go.Proofs.YtimmkenmahagjaaGreatDoor
open Go.RowKit Go.Extern.Stop Go.Stop Go.Extern

theorem right_params3 {P : ProgD} (h : checkE P = none) : ∀ f ∈ P.funs, f.params.length ≤ 3 := by
  have hf : funsE P = none := by
    have hb : fullB P = false := by
      cases e : fullB P with
      | false => rfl
      | true => unfold checkE at h; rw [e] at h; simp at h
    rw [checkE_eq P hb] at h
    cases e1 : namesE P.vars (fnames P) with
    | some x => rw [e1] at h; cases h
    | none =>
      rw [e1] at h
      cases e2 : funsE P with
      | some x => rw [e2] at h; cases h
      | none => rfl
  unfold funsE at hf
  split at hf
  · cases hf
  · rename_i h1
    simp at h1
    exact h1
/-- Sets for each node of a right program, of its objects. -/
structure SetsOk (P : ProgD) (hs : List (List Int)) : Prop where
  len : hs.length = places P P.stmts.length
  set : ∀ j, j < hs.length → IsSet (hs.getD j [])
  obj : ∀ j, j < hs.length → ∀ i, i < (hs.getD j []).length → (hs.getD j []).getD i 0 < (hs.length : Int) + P.funs.length
theorem rise_ge {zs : List Int} (h : IsSet zs) (i : Nat) (hi : i < zs.length) : (i : Int) ≤ zs.getD i 0 := by
  induction i with
  | zero => exact (h.1 0 hi).1
  | succ i ih =>
    have h1 := ih (by omega)
    have h2 := h.2 i hi
    omega
theorem SetsOk.short {P : ProgD} {hs : List (List Int)} (h : SetsOk P hs) (hc : checkE P = none) (j : Nat) (hj : j < hs.length) : (hs.getD j []).length ≤ 200 := by
  obtain ⟨s1, s2, s3⟩ := right_small hc
  have hl := h.len
  have hp := places_le P P.stmts.length
  apply Classical.byContradiction
  intro hn
  have h1 := rise_ge (h.set j hj) 199 (by omega)
  have h2 := h.obj j hj 199 (by omega)
  omega
theorem joinD_len {P : ProgD} (hc : checkE P = none) (n : Nat) (r : RuleD) (o : Int) : (joinD n P.funs r o).length ≤ 4 := by
  unfold joinD
  split
  · split <;> simp
  · split
    · split <;> simp
    · split
      · split
        · simp
        · unfold joinsF
          split
          · rename_i hl
            by_cases hi : (o - n).toNat < P.funs.length
            · have := right_params3 hc _ (getDmC hi)
              simp
              omega
            · have : P.funs.getD (o - n).toNat default = default := by rw [List.getD_eq_getElem?_getD, List.getElem?_eq_none (Nat.le_of_not_lt hi)]; rfl
              rw [this]
              simp
              have hd : (default : FunD).params = [] := rfl
              rw [hd]
              simp
          · simp
      · simp
theorem flat_len {α β : Type} (l : List α) (g : α → List β) (c : Nat) (h : ∀ x ∈ l, (g x).length ≤ c) : (l.flatMap g).length ≤ l.length * c := by
  induction l with
  | nil => simp
  | cons x r ih =>
    rw [List.flatMap_cons, List.length_append, List.length_cons, Nat.add_mul, Nat.one_mul]
    have h1 := h x (List.mem_cons_self ..)
    have h2 := ih (fun y hy => h y (List.mem_cons_of_mem _ hy))
    omega
theorem followD_len {P : ProgD} {hs : List (List Int)} (h : SetsOk P hs) (hc : checkE P = none) (r : RuleD) : (followD P hs r).length ≤ 801 := by
  unfold followD copyD
  rw [List.length_append]
  have h1 : (if r.kind = kCopy then [(r.a, r.b)] else ([] : List Pair)).length ≤ 1 := by split <;> simp
  have h2 : (if askedD r < 0 then [] else (setAt hs (askedD r)).flatMap (joinD hs.length P.funs r)).length ≤ 800 := by
    split
    · simp
    · have h3 := flat_len (setAt hs (askedD r)) (joinD hs.length P.funs r) 4 (fun x _ => joinD_len hc _ r x)
      have h4 : (setAt hs (askedD r)).length ≤ 200 := by
        unfold setAt
        by_cases hj : (askedD r).toNat < hs.length
        · exact h.short hc _ hj
        · simp [List.getD, List.getElem?_eq_none (Nat.le_of_not_lt hj)]
      have h5 := Nat.mul_le_mul_right 4 h4
      omega
  omega
theorem foundD_len {P : ProgD} {hs : List (List Int)} (h : SetsOk P hs) (hc : checkE P = none) : (foundD P hs).length ≤ 100000 := by
  have h1 := flat_len (rulesD P) (followD P hs) 801 (fun r _ => followD_len h hc r)
  rw [rulesD_len] at h1
  have h2 := Nat.mul_le_mul_right 801 (right_small hc).1
  unfold foundD
  omega
theorem asked_base (a b st : Int) (args : List Int) : askedD ⟨kBase, a, b, st, args⟩ < 0 := by
  unfold askedD
  dsimp only
  rw [if_neg (show ¬ kBase = kLoad by decide), if_neg (show ¬ kBase = kCall by decide), if_neg (show ¬ kBase = kStore by decide)]
  decide
/-- What the rules of a right program ask of sets that are there. -/
theorem rule_asks {P : ProgD} {hs : List (List Int)} (h : SetsOk P hs) (hc : checkE P = none) (k : Nat) (hk : k < P.stmts.length) : ¬ askedD (ruleD P k) < 0 → (askedD (ruleD P k)).toNat < hs.length := by
  intro hn
  obtain ⟨k1, k2, k3, k4, -, -, k7⟩ := stmt_parts ((right_of hc).st _ (getDmC hk))
  obtain ⟨x0, x1⟩ := varB_parts k2
  have hv : P.vars.length ≤ hs.length := by rw [h.len]; unfold places; omega
  obtain ⟨st, hst⟩ : ∃ st, st = P.stmts.getD k default := ⟨_, rfl⟩
  rw [← hst] at k1 k2 k3 k4 x0 x1
  unfold ruleD at hn ⊢
  rw [← hst] at hn ⊢
  by_cases e1 : st.kind = kAddr
  · rw [if_pos e1] at hn; exact absurd (asked_base _ _ _ _) hn
  rw [if_neg e1] at hn ⊢
  by_cases e2 : st.kind = kNew
  · rw [if_pos e2] at hn; exact absurd (asked_base _ _ _ _) hn
  rw [if_neg e2] at hn ⊢
  by_cases e3 : st.kind = kFun
  · rw [if_pos e3] at hn; exact absurd (asked_base _ _ _ _) hn
  rw [if_neg e3] at hn ⊢
  have hy : 0 ≤ st.y ∧ st.y < (P.vars.length : Int) := by
    unfold yB at k3
    rw [if_neg (by simpa using e3), if_neg (by simpa using e2)] at k3
    exact varB_parts k3
  unfold askedD at hn ⊢
  dsimp only at hn ⊢
  split
  · omega
  · split
    · omega
    · split
      · omega
      · rename_i q1 q2 q3
        rw [if_neg q1, if_neg q2, if_neg q3] at hn
        exact absurd (by decide) hn
theorem ruleD_args {P : ProgD} (k : Nat) (hk : k < P.stmts.length) (hs : SmallP P) : (ruleD P k).args.length ≤ 1000000 := by
  have := hs.2.2.2.2 _ (getDmC hk)
  unfold ruleD
  split
  · simp
  · split
    · simp
    · split
      · simp
      · show (P.stmts.getD k default).args.length ≤ _; omega
set_option maxRecDepth 100000 in
set_option maxHeartbeats 8000000 in
theorem edges_in (P : ProgD) (v1 v2 v3 rv hv : Value) (hs : List (List Int)) (w : World) (hS : SmallP P) (hc : checkE P = none) (hF : IsFuns w v2 P.funs) (hR : IsRules w rv (rulesD P)) (hH : IsSets w hv hs) (hok : SetsOk P hs) :
    Calls Tryz.prog 50 #[.agg #[v1, v2, v3], rv, hv] w fun e w' => ∃ v es, e = .returned v ∧ IsPairs w' v es ∧ EdgeSet (foundD P hs) es ∧ Below w.heap.size w w' := by
  obtain ⟨s1, s2, s3⟩ := right_small hc
  have hpl := places_le P P.stmts.length
  obtain ⟨ra, rc, rfl, hrr⟩ := hR
  rw [rulesD_len] at hrr ⊢
  obtain ⟨n, hn⟩ : ∃ n, n = P.stmts.length := ⟨_, rfl⟩
  rw [← hn] at hrr s1 ⊢
  have HN : Hid (n = P.stmts.length) := hn
  have hnl : n ≤ 80 := s1
  obtain ⟨W, hW⟩ : ∃ W, W = (w.alloc (.cells #[v1, v2, v3] 26)).alloc (.cells #[.slice none 0 0] TSE) := ⟨_, rfl⟩
  have hBW : Below w.heap.size w W := by rw [hW]; exact (below1 w _).alloc (by simp) _
  have HFB : Hid (W.heap[w.heap.size]? = some (.cells #[v1, v2, v3] 26 (0, 0))) := by show _ = _; rw [hW]; exact block_keep (below1 _ _) (heap_new w _)
  have HF0 : Hid (Found W w.heap.size (w.heap.size + 1) [] (.slice none 0 0)) := by
    refine ⟨by omega, ?_, World.ownsRow_nil _ _ _ _⟩
    rw [hW]
    have := heap_new (w.alloc (.cells #[v1, v2, v3] 26)) (.cells #[.slice none 0 0] TSE)
    simpa using this
  have HRR : Hid (∀ j, j < n → ∃ b, ra = some ⟨b, 0, none⟩ ∧ RuleAt w b j (ruleD P j)) := fun j hj => by
    obtain ⟨b, h1, h2⟩ := hrr j hj
    rw [rulesD_at P j (by omega)] at h2
    exact ⟨b, h1, h2⟩
  have HLE : Hid (∀ k, k < n → ((((rulesD P).take k).flatMap (followD P hs)) ++ followD P hs (ruleD P k)).length ≤ 900000 ∧ (((rulesD P).take (k + 1)).flatMap (followD P hs)) = (((rulesD P).take k).flatMap (followD P hs)) ++ followD P hs (ruleD P k)) := fun k hk => by
    have hkl : k < (rulesD P).length := by rw [rulesD_len]; omega
    have h1 := flat_take (rulesD P) default (followD P hs) k hkl
    rw [rulesD_at P k (by omega)] at h1
    have h2 := flat_take_le (rulesD P) (followD P hs) (k + 1)
    have h3 := foundD_len hok hc
    unfold foundD at h3
    rw [h1] at h2
    exact ⟨by omega, h1⟩
  have KFo : Hid (∀ wx k u es av, k < n → Below w.heap.size w wx → es = ((rulesD P).take k).flatMap (followD P hs) → Found wx w.heap.size (w.heap.size + 1) es u → IsInts w av (ruleD P k).args → Calls Tryz.prog 79 #[.agg #[v1, v2, v3], .agg #[.string (S (ruleD P k).kind), .int .i64 (ruleD P k).a, .int .i64 (ruleD P k).b, .int .i64 (ruleD P k).stmt, av], hv, joinV (w.heap.size + 1)] wx fun e w' => JoinPost w wx (w.heap.size + 1) es (followD P hs (ruleD P k)) e w') := fun wx k u es av hk hb he hFx ha => by
    have hkl : k < P.stmts.length := by omega
    have hsa : ∀ j, j < (setAt hs (askedD (ruleD P k))).length → (askedD (ruleD P k)).toNat < hs.length := fun j hj => by
      apply Classical.byContradiction
      intro q
      unfold setAt at hj
      simp [List.getD, List.getElem?_eq_none (Nat.le_of_not_lt q)] at hj
    refine follow_any hFx hb P v1 v2 v3 hF (fun i hi => by have := right_params3 hc _ (getDmC hi); omega) hv hs hH (by rw [hok.len]; omega) (ruleD P k) av ha (ruleD_args k hkl hS) (S (ruleD P k).kind) (S_toList _) (rule_asks hok hc k hkl) (fun j hj => ?_) ?_ (by rw [he]; exact (HLE.out k hk).1)
    · have hq := hsa j hj
      have h1 := (hok.set _ hq).1 j hj
      have h2 := hok.obj _ hq j hj
      refine ⟨h1.1, ?_, fun _ hno => ?_⟩
      · have := h1.2; unfold setAt; omega
      · unfold setAt at hno ⊢
        omega
    · by_cases hq : (askedD (ruleD P k)).toNat < hs.length
      · have := hok.short hc _ hq; unfold setAt; omega
      · unfold setAt; simp [List.getD, List.getElem?_eq_none (Nat.le_of_not_lt hq)]
  have HFL : Hid ((foundD P hs).length ≤ 1000000) := by have := foundD_len hok hc; show _ ≤ _; omega
  clear hrr hH hok hF hn
  go_enter Tryz.func50, Tryz.ntmps50
  go_upto_region 3 with fail
  rw [← hW]
  clear hW
  go_loopw [12] (fun t wr => ∃ k : Nat, k ≤ n ∧ t = .int .i64 k ∧ (∃ u, Found wr w.heap.size (w.heap.size + 1) (((rulesD P).take k).flatMap (followD P hs)) u) ∧ Below w.heap.size w wr ∧ KE W wr) (fun t _ => (n - intOf t).toNat)
  case atStart => exact ⟨0, Nat.zero_le _, rfl, ⟨_, by simpa using HF0.out⟩, hBW, KE.refl _⟩
  case round =>
    obtain ⟨k, hk, rfl, ⟨u, hFd⟩, hwr, hke⟩ := hrel
    by_cases hlt : k < n
    · obtain ⟨b, rfl, hra⟩ := HRR.out k hlt
      obtain ⟨av, r0, r1, r2, r3, r4, r5, r6⟩ := hra
      obtain ⟨aa, ac, rfl⟩ := isInts_form r5
      obtain ⟨na, hna⟩ : ∃ z, z = (ruleD P k).args.length := ⟨_, rfl⟩
      rw [← hna] at r4 r5 r6
      replace r0 := cell_keep hwr r0
      replace r1 := cell_keep hwr r1
      replace r2 := cell_keep hwr r2
      replace r3 := cell_keep hwr r3
      replace r4 := cell_keep hwr r4
      have hki : (k : Int) < n := by omega
      have hkb := hke _ _ _ _ HFB.out (by decide) (by decide)
      have hT := (HLE.out k hlt).2
      obtain ⟨es, hes⟩ : ∃ es, es = ((rulesD P).take k).flatMap (followD P hs) := ⟨_, rfl⟩
      obtain ⟨js, hjs⟩ : ∃ js, js = followD P hs (ruleD P k) := ⟨_, rfl⟩
      rw [← hes, ← hjs] at hT
      rw [← hes] at hFd
      obtain ⟨W4, hW4⟩ : ∃ W4, W4 = wr.alloc (ruleBox (S (ruleD P k).kind) (ruleD P k).a (ruleD P k).b (ruleD P k).stmt (.slice aa na ac)) := ⟨_, rfl⟩
      have hB4 : Below wr.heap.size wr W4 := by rw [hW4]; exact below1 wr _
      have hbx : W4.heap[wr.heap.size]? = some (ruleBox (S (ruleD P k).kind) (ruleD P k).a (ruleD P k).b (ruleD P k).stmt (.slice aa na ac)) := by rw [hW4]; exact heap_new wr _
      have KF := KFo.out W4 k u es (.slice aa na ac) hlt (hwr.trans (hB4.mono hwr.size)) hes (hFd.below hB4) r5
      rw [← hjs] at KF
      obtain ⟨kd, hkd⟩ : ∃ z, z = S (ruleD P k).kind := ⟨_, rfl⟩
      obtain ⟨qa, hqa⟩ : ∃ z, z = (ruleD P k).a := ⟨_, rfl⟩
      obtain ⟨qb, hqb⟩ : ∃ z, z = (ruleD P k).b := ⟨_, rfl⟩
      obtain ⟨qs, hqs⟩ : ∃ z, z = (ruleD P k).stmt := ⟨_, rfl⟩
      rw [← hkd] at r0 KF hbx hW4
      rw [← hqa] at r1 KF hbx hW4
      rw [← hqb] at r2 KF hbx hW4
      rw [← hqs] at r3 KF hbx hW4
      have HKF : Hid _ := KF
      have HT : Hid (((rulesD P).take (k + 1)).flatMap (followD P hs) = es ++ js) := hT
      have p0 : W4.cell? ⟨w.heap.size, 0, none⟩ = some v1 := cell_keep hB4 (by rw [Lib.cell_of_heap hkb]; rfl)
      have p1 : W4.cell? ⟨w.heap.size, 1, none⟩ = some v2 := cell_keep hB4 (by rw [Lib.cell_of_heap hkb]; rfl)
      have p2 : W4.cell? ⟨w.heap.size, 2, none⟩ = some v3 := cell_keep hB4 (by rw [Lib.cell_of_heap hkb]; rfl)
      have c0 : W4.cell? ⟨wr.heap.size, 0, none⟩ = some (.string kd) := by rw [Lib.cell_of_heap hbx]; rfl
      have c1 : W4.cell? ⟨wr.heap.size, 1, none⟩ = some (.int .i64 qa) := by rw [Lib.cell_of_heap hbx]; rfl
      have c2 : W4.cell? ⟨wr.heap.size, 2, none⟩ = some (.int .i64 qb) := by rw [Lib.cell_of_heap hbx]; rfl
      have c3 : W4.cell? ⟨wr.heap.size, 3, none⟩ = some (.int .i64 qs) := by rw [Lib.cell_of_heap hbx]; rfl
      have c4 : W4.cell? ⟨wr.heap.size, 4, none⟩ = some (.slice aa na ac) := by rw [Lib.cell_of_heap hbx]; rfl
      have HB4 : Hid (Below w.heap.size w W4 ∧ KE W W4) := ⟨hwr.trans (hB4.mono hwr.size), hke.trans (KE.of_below hB4)⟩
      clear hna hFd hkd hqa hqb hqs hes hjs hT KF hbx hkb r5 r6 hB4
      go_upto_region 5 with fail
      rw [← hW4]
      clear hW4 r0 r1 r2 r3 r4
      go_wp2_with (go_at_call 79; refine Calls.mono HKF.out ?_; rintro e w5 ⟨rfl, u5, hF5, hb5, hk5⟩)
      go_roundw
      case rel => exact ⟨k + 1, hlt, by go_num, ⟨u5, by rw [HT.out]; exact hF5⟩, HB4.out.1.trans hb5, HB4.out.2.trans hk5⟩
      case measure => simp [intOf]; omega
    · have hkn : k = n := by omega
      subst hkn
      have htk : (rulesD P).take k = rulesD P := List.take_of_length_le (by rw [rulesD_len, HN.out]; exact Nat.le_refl _)
      rw [htk] at hFd
      have c0 : wr.cell? ⟨w.heap.size + 1, 0, none⟩ = some u := by rw [Lib.cell_of_heap hFd.blk]; rfl
      have KT : Hid (Calls Tryz.prog 81 #[u] wr fun e w' => ∃ v es', e = .returned v ∧ IsPairs w' v es' ∧ EdgeSet (foundD P hs) es' ∧ Below w.heap.size wr w') := tidy_any (foundD P hs) u wr w.heap.size HFL.out hFd.row
      clear hFd htk
      go_wp2_with fail
      refine KT.out.mono ?_
      rintro e w6 ⟨v, es', rfl, h1, h2, h3⟩
      go_wp2_with fail
      go_ret
      exact ⟨v, es', rfl, h1, h2, hwr.trans h3⟩
end Go.Proofs.YtimmkenmahagjaaGreatDoor

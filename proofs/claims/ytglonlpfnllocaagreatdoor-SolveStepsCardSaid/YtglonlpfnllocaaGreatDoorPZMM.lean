/-
  LargeProgram of however many statements, by a contract.
-/
import Derived.Test.YtglonlpfnllocaaGreatDoorPIM
namespace Go.Proofs.YtglonlpfnllocaaGreatDoor
open Go.RowKit Go.Extern.Stop Go.Stop Go.Extern

set_option maxRecDepth 100000 in
set_option maxHeartbeats 8000000 in
theorem large_m (M : Int) (hM : M ≤ 81) (P : ProgD) (v1 v2 v3 : Value) (w : World) (h : IsProg w v1 v2 v3 P) :
    Calls Tryz.prog 7 #[.agg #[v1, v2, v3], .int .i64 M] w fun e w' => ∃ r : Int, e = .returned (.int .i64 r) ∧ (r = 1 ∨ (r = 0 ∧ SmallP P ∧ SmallN P ∧ ((P.stmts.length : Int) ≤ M ∨ P.stmts.length = 81))) ∧ Below w.heap.size w w' := by
  have H : Hid (IsProg w v1 v2 v3 P) := h
  obtain ⟨⟨a1, c1, rfl, -, -⟩, ⟨a2, c2, rfl, -, -⟩, ⟨a3, c3, rfl, -, -⟩⟩ := h
  generalize hn1 : P.vars.length = n1 at *
  generalize hn2 : P.funs.length = n2 at *
  generalize hn3 : P.stmts.length = n3 at *
  have HN : Hid (P.vars.length = n1 ∧ P.funs.length = n2 ∧ P.stmts.length = n3) := ⟨hn1, hn2, hn3⟩
  clear hn1 hn2 hn3
  go_enter Tryz.func7, Tryz.ntmps7
  go_upto_region 1 with fail
  go_cut [36] (fun s wx => ∃ Bd, s = .bool Bd ∧ (Bd = false → n1 ≤ 41 ∧ n2 ≤ 8 ∧ n3 ≤ 81 ∧ ((n3 : Int) ≤ M ∨ n3 = 81)) ∧ wx = w.alloc (.cells #[.slice a1 n1 c1, .slice a2 n2 c2, .slice a3 n3 c3] 26))
  case first =>
    by_cases g1 : 15 < (n1 : Int)
    · by_cases g1' : (n1 : Int) = 41
      · have e41 : ((n1 : Int) != 41) = false := by rw [g1']; rfl
        by_cases g2 : 8 < (n2 : Int)
        · go_wp2_with fail
          go_meet
          exact ⟨true, rfl, (fun q => by cases q), rfl⟩
        · by_cases g3 : M < (n3 : Int)
          · by_cases g3' : (n3 : Int) = 81
            · have e81 : ((n3 : Int) != 81) = false := by rw [g3']; rfl
              go_wp2_with fail
              go_meet
              exact ⟨false, rfl, (fun _ => by omega), rfl⟩
            · have e81 : ((n3 : Int) != 81) = true := by simp [g3']
              go_wp2_with fail
              go_meet
              exact ⟨true, rfl, (fun q => by cases q), rfl⟩
          · go_wp2_with fail
            go_meet
            exact ⟨false, rfl, (fun _ => by omega), rfl⟩
      · have e41 : ((n1 : Int) != 41) = true := by simp [g1']
        go_wp2_with fail
        go_meet
        exact ⟨true, rfl, (fun q => by cases q), rfl⟩
    · by_cases g2 : 8 < (n2 : Int)
      · go_wp2_with fail
        go_meet
        exact ⟨true, rfl, (fun q => by cases q), rfl⟩
      · by_cases g3 : M < (n3 : Int)
        · by_cases g3' : (n3 : Int) = 81
          · have e81 : ((n3 : Int) != 81) = false := by rw [g3']; rfl
            go_wp2_with fail
            go_meet
            exact ⟨false, rfl, (fun _ => by omega), rfl⟩
          · have e81 : ((n3 : Int) != 81) = true := by simp [g3']
            go_wp2_with fail
            go_meet
            exact ⟨true, rfl, (fun q => by cases q), rfl⟩
        · go_wp2_with fail
          go_meet
          exact ⟨false, rfl, (fun _ => by omega), rfl⟩
  case rest =>
  obtain ⟨Bd, rfl, hsm, hwc⟩ := hcut
  have hB : Below w.heap.size w wc := by rw [hwc]; exact below1 w _
  have HX : Hid (Box3 wc w.heap.size (.slice a1 n1 c1) (.slice a2 n2 c2) (.slice a3 n3 c3)) := by
    show Box3 wc w.heap.size (.slice a1 n1 c1) (.slice a2 n2 c2) (.slice a3 n3 c3)
    rw [hwc]; exact box3_new w _ _ _ _
  clear hwc
  cases Bd with
  | true =>
    clear hsm
    go_wp2_with fail
    go_ret
    exact ⟨1, rfl, Or.inl rfl, hB⟩
  | false =>
    have hsz := hsm rfl
    obtain ⟨z1, z2, z3, z4⟩ := hsz
    have HZ4 : Hid ((n3 : Int) ≤ M ∨ n3 = 81) := z4
    clear z4
    obtain ⟨x0, x1, x2⟩ := HX.out
    have HP : Hid (IsProg wc (.slice a1 n1 c1) (.slice a2 n2 c2) (.slice a3 n3 c3) P) := H.out.below hB
    clear hsm
    go_wp2_with fail
    go_loopw [5] (fun t wr => ∃ k : Nat, k ≤ n1 ∧ t = .int .i64 k ∧ wr = wc ∧ ∀ j, j < k → (P.vars.getD j []).length ≤ 20) (fun t _ => (n1 - intOf t).toNat)
    case atStart => exact ⟨0, Nat.zero_le _, rfl, rfl, fun j hj => absurd hj (Nat.not_lt_zero _)⟩
    case round =>
      obtain ⟨k, hk, rfl, hwr, hallv⟩ := hrel
      obtain rfl := hwr.symm
      have HAV : Hid (∀ j, j < k → (P.vars.getD j []).length ≤ 20) := hallv
      clear hwr hallv
      by_cases hlt : k < n1
      · obtain ⟨_, _, hv1, _, hst1⟩ := HP.out.vars
        obtain ⟨b, o, ha1, e0⟩ := hst1 k (by rw [HN.out.1]; exact hlt)
        obtain rfl : a1 = some ⟨b, o, none⟩ := by rw [← ha1]; exact (Value.slice.inj hv1).1
        obtain ⟨zb, hzb⟩ : ∃ zb, zb = S (P.vars.getD k []) := ⟨_, rfl⟩
        rw [← hzb] at e0
        have HZB : Hid (zb.size = (P.vars.getD k []).length) := by show zb.size = _; rw [hzb, S_size]
        clear hv1 hst1 ha1 hzb
        by_cases g : 20 < (zb.size : Int)
        · go_wp2_with fail
          go_ret
          exact ⟨1, rfl, Or.inl rfl, hB⟩
        · go_wp2_with fail
          go_roundw
          case rel =>
            refine ⟨k + 1, hlt, by go_num, trivial, fun j hj => ?_⟩
            rcases Nat.lt_succ_iff_lt_or_eq.1 hj with q | q
            · exact HAV.out j q
            · rw [q, ← HZB.out]; omega
          case measure => simp [intOf]; omega
      · have HVN : Hid (∀ v ∈ P.vars, v.length ≤ 1000000) := fun v hv => by
          obtain ⟨j, hj, rfl⟩ := List.mem_iff_getElem.1 hv
          have h8 := HAV.out j (by rw [HN.out.1] at hj; omega)
          have : P.vars.getD j [] = P.vars[j] := by simp [List.getD, hj]
          rw [this] at h8; omega
        clear HAV
        go_wp2_with fail
        go_loopw [6] (fun t wr => ∃ k : Nat, k ≤ n2 ∧ t = .int .i64 k ∧ wr = wc ∧ ∀ j, j < k → (P.funs.getD j default).params.length ≤ 8 ∧ (P.funs.getD j default).name.length ≤ 20) (fun t _ => (n2 - intOf t).toNat)
        case atStart => exact ⟨0, Nat.zero_le _, rfl, rfl, fun j hj => absurd hj (Nat.not_lt_zero _)⟩
        case round =>
          obtain ⟨k, hk, rfl, hwr, hall⟩ := hrel
          obtain rfl := hwr.symm
          have HA : Hid (∀ j, j < k → (P.funs.getD j default).params.length ≤ 8 ∧ (P.funs.getD j default).name.length ≤ 20) := hall
          clear hwr hall
          by_cases hlt : k < n2
          · obtain ⟨_, _, hv2, _, hst2⟩ := HP.out.funs
            obtain ⟨b, o, ha2, e0⟩ := hst2 k (by rw [HN.out.2.1]; exact hlt)
            obtain rfl : a2 = some ⟨b, o, none⟩ := by rw [← ha2]; exact (Value.slice.inj hv2).1
            obtain ⟨z, hze⟩ : ∃ z, z = P.funs.getD k default := ⟨_, rfl⟩
            have HZ : Hid (z = P.funs.getD k default) := hze
            rw [← hze] at e0
            obtain ⟨pv, r1, r2, ⟨-, pa, pc, rfl, -⟩, r3⟩ := e0
            obtain ⟨zb, hzb⟩ : ∃ zb, zb = S z.name := ⟨_, rfl⟩
            rw [← hzb] at r1
            have HZB : Hid (zb.size = z.name.length) := by show zb.size = _; rw [hzb, S_size]
            obtain ⟨m, hm⟩ : ∃ m, m = z.params.length := ⟨_, rfl⟩
            have HM : Hid (m = z.params.length) := hm
            rw [← hm] at r2
            clear hv2 hst2 ha2 hze hzb hm r3
            by_cases g : 20 < (zb.size : Int)
            · go_wp2_with fail
              go_ret
              exact ⟨1, rfl, Or.inl rfl, hB⟩
            · by_cases g8 : 8 < (m : Int)
              · go_wp2_with fail
                go_ret
                exact ⟨1, rfl, Or.inl rfl, hB⟩
              · go_wp2_with fail
                go_roundw
                case rel =>
                  refine ⟨k + 1, hlt, by go_num, trivial, fun j hj => ?_⟩
                  rcases Nat.lt_succ_iff_lt_or_eq.1 hj with q | q
                  · exact HA.out j q
                  · rw [q, ← HZ.out, ← HM.out, ← HZB.out]; omega
                case measure => simp [intOf]; omega
          · have HFN : Hid (∀ f ∈ P.funs, f.name.length ≤ 1000000) := fun f hf => by
              obtain ⟨j, hj, rfl⟩ := List.mem_iff_getElem.1 hf
              have h8 := HA.out j (by rw [HN.out.2.1] at hj; omega)
              have : P.funs.getD j default = P.funs[j] := by simp [List.getD, hj]
              rw [this] at h8; omega
            have HF : Hid (∀ f ∈ P.funs, f.params.length ≤ 100000) := fun f hf => by
              obtain ⟨j, hj, rfl⟩ := List.mem_iff_getElem.1 hf
              have h8 := HA.out j (by rw [HN.out.2.1] at hj; omega)
              have : P.funs.getD j default = P.funs[j] := by simp [List.getD, hj]
              rw [this] at h8; omega
            clear HA
            go_wp2_with fail
            go_loopw [7] (fun t wr => ∃ k : Nat, k ≤ n3 ∧ t = .int .i64 k ∧ wr = wc ∧ ∀ j, j < k → (P.stmts.getD j default).args.length ≤ 8) (fun t _ => (n3 - intOf t).toNat)
            case atStart => exact ⟨0, Nat.zero_le _, rfl, rfl, fun j hj => absurd hj (Nat.not_lt_zero _)⟩
            case round =>
              obtain ⟨k, hk, rfl, hwr, hall⟩ := hrel
              obtain rfl := hwr.symm
              have HA : Hid (∀ j, j < k → (P.stmts.getD j default).args.length ≤ 8) := hall
              clear hwr hall
              by_cases hlt : k < n3
              · obtain ⟨_, _, hv3, _, hst3⟩ := HP.out.stmts
                obtain ⟨b, o, ha3, e0⟩ := hst3 k (by rw [HN.out.2.2]; exact hlt)
                obtain rfl : a3 = some ⟨b, o, none⟩ := by rw [← ha3]; exact (Value.slice.inj hv3).1
                obtain ⟨z, hze⟩ : ∃ z, z = P.stmts.getD k default := ⟨_, rfl⟩
                have HZ : Hid (z = P.stmts.getD k default) := hze
                rw [← hze] at e0
                obtain ⟨pv, r1, r2, r3, r4, ⟨-, pa, pc, rfl, -⟩⟩ := e0
                obtain ⟨zb, hzb⟩ : ∃ zb, zb = S z.kind := ⟨_, rfl⟩
                rw [← hzb] at r1
                obtain ⟨m, hm⟩ : ∃ m, m = z.args.length := ⟨_, rfl⟩
                have HM : Hid (m = z.args.length) := hm
                rw [← hm] at r4
                clear hv3 hst3 ha3 hze hzb hm r2 r3
                by_cases g : 20 < (zb.size : Int)
                · go_wp2_with fail
                  go_ret
                  exact ⟨1, rfl, Or.inl rfl, hB⟩
                · by_cases g8 : 8 < (m : Int)
                  · go_wp2_with fail
                    go_ret
                    exact ⟨1, rfl, Or.inl rfl, hB⟩
                  · go_wp2_with fail
                    go_roundw
                    case rel =>
                      refine ⟨k + 1, hlt, by go_num, trivial, fun j hj => ?_⟩
                      rcases Nat.lt_succ_iff_lt_or_eq.1 hj with q | q
                      · exact HA.out j q
                      · rw [q, ← HZ.out, ← HM.out]; omega
                    case measure => simp [intOf]; omega
              · have HT : Hid (SmallP P) := by
                  refine ⟨by rw [HN.out.1]; omega, by rw [HN.out.2.1]; omega, by rw [HN.out.2.2]; omega, HF.out, fun s hs => ?_⟩
                  obtain ⟨j, hj, rfl⟩ := List.mem_iff_getElem.1 hs
                  have h8 := HA.out j (by rw [HN.out.2.2] at hj; omega)
                  have : P.stmts.getD j default = P.stmts[j] := by simp [List.getD, hj]
                  rw [this] at h8; omega
                clear HA
                go_wp2_with fail
                go_ret
                exact ⟨0, rfl, Or.inr ⟨rfl, HT.out, ⟨HVN.out, HFN.out⟩, HZ4.out⟩, hB⟩
end Go.Proofs.YtglonlpfnllocaaGreatDoor

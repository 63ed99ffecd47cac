/-
  The document's CalledOf: who is called, by a contract.
-/
import Derived.Test.YteekjigaicmohaaGreatDoorZIM
import Derived.Test.YteekjigaicmohaaGreatDoorYLM
import Derived.Test.YteekjigaicmohaaGreatDoorQFM
import Derived.Test.YteekjigaicmohaaGreatDoorRefAM
import Derived.Lib.QuietBelow
import Derived.Test.YteekjigaicmohaaGreatDoorZLM
namespace Go.Proofs.YteekjigaicmohaaGreatDoor
open Go.RowKit Go.Extern.Stop Go.Stop Go.Extern

/-- May statement k call function f? -/
def mayK (P : ProgD) (L : List (List Int)) (k f : Nat) : Bool :=
  (setAt L (P.stmts.getD k default).y).contains (((L.length : Nat) : Int) + (f : Int)) && decide ((P.funs.getD f default).params.length = (P.stmts.getD k default).args.length)
theorem pick_up (p : Nat → Bool) (n : Nat) : (pickK p n).Pairwise (· < ·) := by
  unfold pickK
  rw [List.pairwise_map]
  refine (List.Pairwise.filter p ?_).imp (R := fun a b : Nat => a < b) (fun h => by omega)
  exact List.pairwise_lt_range
theorem calledR_eq {P : ProgD} {L : List (List Int)} (hG : Good P L) {k : Nat} (hk : k < P.stmts.length) (hkc : (P.stmts.getD k default).kind = kCall) : calledL P L (P.stmts.getD k default) = pickK (mayK P L k) P.funs.length := by
  have hsm := mem_getDY default hk
  obtain ⟨Y, hY, hYn⟩ := (hG.stm hsm).2.1 (Or.inr (Or.inl hkc))
  have hl := hG.len
  have hset := hG.sets.set Y (by omega)
  have hci := (called_in hG hsm).1
  have hsa : setAt L (P.stmts.getD k default).y = L.getD Y [] := by unfold setAt; rw [hY, Int.toNat_natCast]
  refine rise_ext _ _ ?_ (pick_up _ _) fun x => ?_
  · unfold calledL
    rw [if_pos hkc, hsa]
    refine List.Pairwise.filter _ ?_
    rw [List.pairwise_map]
    exact hset.pairwise.imp fun h => by omega
  · constructor
    · intro hx
      have h1 := hci x hx
      unfold calledL at hx
      rw [if_pos hkc] at hx
      obtain ⟨h2, h3⟩ := List.mem_filter.1 hx
      obtain ⟨o, ho, rfl⟩ := List.mem_map.1 h2
      refine List.mem_map.2 ⟨(o - (L.length : Int)).toNat, List.mem_filter.2 ⟨List.mem_range.2 (by omega), ?_⟩, by omega⟩
      unfold mayK
      unfold fitsB at h3
      rw [Bool.and_eq_true] at h3 ⊢
      refine ⟨?_, h3.2⟩
      rw [List.contains_iff_mem, show ((L.length : Nat) : Int) + (((o - (L.length : Int)).toNat : Nat) : Int) = o by omega]
      exact ho
    · intro hx
      obtain ⟨f, hf, rfl⟩ := List.mem_map.1 hx
      obtain ⟨h1, h2⟩ := List.mem_filter.1 hf
      unfold mayK at h2
      rw [Bool.and_eq_true, List.contains_iff_mem] at h2
      unfold calledL
      rw [if_pos hkc]
      refine List.mem_filter.2 ⟨List.mem_map.2 ⟨_, h2.1, by omega⟩, ?_⟩
      rw [fits_iff f rfl]
      exact h2.2
set_option maxRecDepth 100000 in
set_option maxHeartbeats 16000000 in
theorem refCalled_any (P : ProgD) (L : List (List Int)) (hS : SmallP P) (hG : Good P L) (k : Nat) (hk : k < P.stmts.length) (va : Option Addr) (vn vc : Nat) (v1 v2 v3 : Value) (w : World) (hP : IsProg w v1 v2 v3 P) (hI : IsSets w (.slice va vn vc) L) :
    Calls Tryz.prog 33 #[.agg #[v1, v2, v3], .slice va vn vc, .int .i64 (k : Int)] w fun e w' => ∃ xa xc, e = .returned (.slice xa (calledL P L (P.stmts.getD k default)).length xc) ∧ IsInts w' (.slice xa (calledL P L (P.stmts.getD k default)).length xc) (calledL P L (P.stmts.getD k default)) ∧ Below w.heap.size w w' := by
  have HP : Hid (IsProg w v1 v2 v3 P) := hP
  obtain ⟨⟨a1, c1, rfl, -, -⟩, ⟨a2, c2, rfl, -, hfs⟩, ⟨a3, c3, rfl, -, hst⟩⟩ := hP
  obtain ⟨sb, so, rfl, pv, s0, s1, s2, s3, ⟨-, aa, ac, rfl, -⟩⟩ := hst k hk
  obtain ⟨n1, hn1⟩ : ∃ m, m = P.vars.length := ⟨_, rfl⟩
  obtain ⟨nf, hnf⟩ : ∃ m, m = P.funs.length := ⟨_, rfl⟩
  obtain ⟨n3, hn3⟩ : ∃ m, m = P.stmts.length := ⟨_, rfl⟩
  rw [← hn1, ← hnf, ← hn3] at HP ⊢
  have hki : (k : Int) < n3 := by omega
  obtain ⟨kd, hkd⟩ : ∃ z, z = S (P.stmts.getD k default).kind := ⟨_, rfl⟩
  obtain ⟨sx, hsx⟩ : ∃ z, z = (P.stmts.getD k default).x := ⟨_, rfl⟩
  obtain ⟨sy, hsy⟩ : ∃ z, z = (P.stmts.getD k default).y := ⟨_, rfl⟩
  obtain ⟨na, hna⟩ : ∃ z, z = (P.stmts.getD k default).args.length := ⟨_, rfl⟩
  rw [← hkd] at s0
  rw [← hsx] at s1
  rw [← hsy] at s2
  rw [← hna] at s3
  have HKD : Hid (kd.toList = (P.stmts.getD k default).kind) := by show _ = _; rw [hkd, S_toList]
  obtain ⟨zs, hzs⟩ : ∃ z, z = calledL P L (P.stmts.getD k default) := ⟨_, rfl⟩
  rw [← hzs]
  have HZS : Hid (zs = calledL P L (P.stmts.getD k default)) := hzs
  obtain ⟨W, hW⟩ : ∃ W, W = w.alloc (prgBox (.slice a1 n1 c1) (.slice a2 nf c2) (.slice (some ⟨sb, so, none⟩) n3 c3)) := ⟨_, rfl⟩
  have hBW : Below w.heap.size w W := by rw [hW]; exact below1 w _
  have hBox : Box3 W w.heap.size (.slice a1 n1 c1) (.slice a2 nf c2) (.slice (some ⟨sb, so, none⟩) n3 c3) := by rw [hW]; exact box3_new w _ _ _ _
  obtain ⟨V, hV⟩ : ∃ V, V = W.alloc (stmBox kd sx sy (.slice aa na ac)) := ⟨_, rfl⟩
  have hBV : Below W.heap.size W V := by rw [hV]; exact below1 W _
  have HB : Hid (V.heap[W.heap.size]? = some (stmBox kd sx sy (.slice aa na ac))) := by show _ = _; rw [hV]; exact heap_new W _
  have HVX : Hid (Below w.heap.size w V ∧ Box3 V w.heap.size (.slice a1 n1 c1) (.slice a2 nf c2) (.slice (some ⟨sb, so, none⟩) n3 c3) ∧ Below w.heap.size w W) := ⟨bthenY hBW hBV, hBox.below hBV, hBW⟩
  replace s0 := cell_keep hBW s0
  replace s1 := cell_keep hBW s1
  replace s2 := cell_keep hBW s2
  replace s3 := cell_keep hBW s3
  obtain ⟨p0, p1, p2⟩ := hBox
  by_cases hkc : (P.stmts.getD k default).kind = kCall
  case neg =>
    have HE : Hid (zs = []) := by show zs = []; rw [hzs]; unfold calledL; rw [if_neg hkc]
    have g1 : (kd.toList == [99, 97, 108, 108]) = false := by rw [HKD.out]; exact beq_eq_false_iff_ne.2 hkc
    clear hst hfs hzs hkc hkd hsx hsy hna hn1 hnf hn3 hBW hBV hI hG hk
    go_enter Tryz.func33, Tryz.ntmps33
    go_upto_region 1 with fail
    rw [← hW]
    clear hW
    go_upto_region 2 with fail
    rw [← hV]
    clear hV
    have t0 : V.cell? ⟨W.heap.size, 0, none⟩ = some (.string kd) := by rw [Lib.cell_of_heap HB.out]; rfl
    go_wp2_with fail
    go_ret
    exact ⟨none, 0, by rw [HE.out]; rfl, by rw [HE.out]; exact IsInts.nil _ _ _, HVX.out.1⟩
  case pos =>
  have g1 : (kd.toList == [99, 97, 108, 108]) = true := by rw [HKD.out, hkc]; decide
  have hZ : zs = pickK (mayK P L k) nf := by rw [hzs, calledR_eq hG hk hkc, hnf]
  obtain ⟨Y, hY, hYn⟩ := (hG.stm (mem_getDY default hk)).2.1 (Or.inr (Or.inl hkc))
  have hln := hG.len
  obtain ⟨va', vc', e', hr⟩ := hI
  cases e'
  obtain ⟨lb, lo, ux, rfl, x1, x2⟩ := hr Y (by omega)
  obtain ⟨ua, uc, rfl⟩ := isInts_form x2
  obtain ⟨N, hN⟩ : ∃ N, N = L.length := ⟨_, rfl⟩
  obtain ⟨ul, hul⟩ : ∃ N, N = (L.getD Y []).length := ⟨_, rfl⟩
  have hsy' : sy = (Y : Int) := by rw [hsy, hY]
  subst hsy'
  have hYi : (Y : Int) < N := by omega
  have hYl : (Y : Int) < (L.length : Int) := by omega
  have hul2 : (L.getD Y []).length ≤ 200 := (hG.row Y (by omega)).1
  rw [← hul] at x1
  have hNF : nf ≤ 8 := by omega
  have HM : Hid (∀ f, f < nf → ∃ b o pa np pc, a2 = some ⟨b, o, none⟩ ∧ w.cell? ⟨b, o + f * 3 + 1, none⟩ = some (.slice pa np pc) ∧ ∃ D, mayK P L k f = (D && decide (np = na)) ∧ ∀ wx, Below w.heap.size w wx → Calls Tryz.prog 35 #[.slice ua ul uc, .int .i64 ((N : Int) + (f : Int))] wx fun e w' => e = .returned (.bool D) ∧ Below wx.heap.size wx w') := fun f hf => by
    obtain ⟨b, o, q1, pv, -, q3, ⟨-, pa, pc, rfl, -⟩, -⟩ := hfs f (by omega)
    refine ⟨b, o, pa, _, pc, q1, q3, (setAt L (P.stmts.getD k default).y).contains (((L.length : Nat) : Int) + (f : Int)), by unfold mayK; rw [hna], fun wx hb => ?_⟩
    rw [show setAt L (P.stmts.getD k default).y = L.getD Y [] by unfold setAt; rw [hY, Int.toNat_natCast], hul, hN]
    exact (refHas_any _ _ _ wx (by omega) (by have := x2.below hb; exact this)).mono fun e w' ⟨h1, h2⟩ => ⟨h1, by rw [h2]; exact Below.refl _ _⟩
  have HNO : Hid (∀ wx, Below w.heap.size w wx → Calls Tryz.prog 63 #[.agg #[.slice a1 n1 c1, .slice a2 nf c2, .slice (some ⟨sb, so, none⟩) n3 c3]] wx fun e w' => e = .returned (.int .i64 (N : Int)) ∧ Below wx.heap.size wx w') := fun wx hb => by
    have := refNodes_any P _ _ _ wx hS (HP.out.below hb)
    rw [← hG.sets.len, ← hN] at this
    exact this
  have HZ2 : Hid (zs = pickK (mayK P L k) nf) := hZ
  have hwN : N ≤ 200 := by omega
  clear hst hfs hzs hkc hkd hsx hsy hna hn1 hnf hn3 hBV hG hk hZ hr x2 hY hYn hln hN hul hul2 hS
  go_enter Tryz.func33, Tryz.ntmps33
  go_upto_region 1 with fail
  rw [← hW]
  clear hW
  go_upto_region 2 with fail
  rw [← hV]
  clear hV
  obtain ⟨bx, hbx⟩ : ∃ b, b = W.heap.size := ⟨_, rfl⟩
  rw [← hbx] at HB ⊢
  clear hbx s0 s1 s2 s3 p0 p1 p2
  have t0 : V.cell? ⟨bx, 0, none⟩ = some (.string kd) := by rw [Lib.cell_of_heap HB.out]; rfl
  have t2 : V.cell? ⟨bx, 2, none⟩ = some (.int .i64 (Y : Int)) := by rw [Lib.cell_of_heap HB.out]; rfl
  have t3 : V.cell? ⟨bx, 3, none⟩ = some (.slice aa na ac) := by rw [Lib.cell_of_heap HB.out]; rfl
  have x1' := cell_keep HVX.out.1 x1
  clear x1 hBW
  go_wp2_with fail
  go_loopw [8, 9] (fun u t wr => ∃ f : Nat, f ≤ nf ∧ t = .int .i64 f ∧ wr.ownsRow V.heap.size 3 1 u (pickK (mayK P L k) f).length ((pickK (mayK P L k) f).map intV) ∧ Below V.heap.size V wr) (fun _ t _ => (nf - intOf t).toNat)
  case atStart => exact ⟨0, Nat.zero_le _, rfl, World.ownsRow_nil _ _ _ _, Below.refl _ _⟩
  case round =>
    obtain ⟨f, hf, rfl, ho, hB⟩ := hrel
    have HO : Hid (wr.ownsRow V.heap.size 3 1 u8 (pickK (mayK P L k) f).length ((pickK (mayK P L k) f).map intV)) := ho
    have hlen := pick_len (mayK P L k) f
    have HBw : Hid (Below w.heap.size w wr) := bthenY HVX.out.1 hB
    have e2 := cell_keep hB t2
    have e3 := cell_keep hB t3
    have ex := cell_keep hB x1'
    obtain ⟨p0, p1, p2⟩ := HVX.out.2.1.below hB
    clear ho
    by_cases hlt : f < nf
    · have hfi : (f : Int) < nf := by omega
      obtain ⟨b, o, pa, np, pc, rfl, ef, D, hD, KH⟩ := HM.out f hlt
      replace ef := cell_keep HBw.out ef
      have HD : Hid (mayK P L k f = (D && decide (np = na))) := hD
      have hwr : IntKind.i64.wrap ((N : Int) + (f : Int)) = (N : Int) + (f : Int) := by rw [IntKind.wrap_i64]; omega
      have KHR : ∀ d os, Calls Tryz.prog 35 #[.slice ua ul uc, .int .i64 ((N : Int) + (f : Int))] (Go.Sort.grow (redrawn wr d) os) fun e w'' => e = .returned (.bool D) ∧ ∃ p : Regrown, w'' = Go.Sort.grow (redrawn wr p.d) p.os := fun d os => Calls.regrown_of (KH _ (bthenY HBw.out (below_regrown wr d os)))
      have KNR : ∀ d os, Calls Tryz.prog 63 #[.agg #[.slice a1 n1 c1, .slice (some ⟨b, o, none⟩) nf c2, .slice (some ⟨sb, so, none⟩) n3 c3]] (Go.Sort.grow (redrawn wr d) os) fun e w'' => e = .returned (.int .i64 (N : Int)) ∧ ∃ p : Regrown, w'' = Go.Sort.grow (redrawn wr p.d) p.os := fun d os => Calls.regrown_of (HNO.out _ (bthenY HBw.out (below_regrown wr d os)))
      have E2 := cell_regrown e2
      have E3 := cell_regrown e3
      have EX := cell_regrown ex
      have EF := cell_regrown ef
      have P0 := cell_regrown p0
      have P1 := cell_regrown p1
      have P2 := cell_regrown p2
      clear hD KH t2 t3 x1'
      cases D with
      | false =>
        have HMY : Hid (mayK P L k f = false) := HD.out
        go_upto_region 8 with fail
        refine wp_region_quiet_below (by kernel_rfl) (by kernel_rfl) ?_
        repeat (go_big_quiet_step (first | exact KHR _ _ | exact KNR _ _))
        refine wpQuiet_nil ?_
        intro _ hw'
        obtain ⟨⟨dq, osq⟩, hw''⟩ := hw'
        subst hw''
        have hBQ : Below V.heap.size V (Go.Sort.grow (redrawn wr dq) osq) := hB.trans ((below_regrown wr dq osq).mono hB.size)
        have HOQ : Hid ((Go.Sort.grow (redrawn wr dq) osq).ownsRow V.heap.size 3 1 u8 (pickK (mayK P L k) f).length ((pickK (mayK P L k) f).map intV)) := owns_below HO.out (below_regrown wr dq osq)
        clear KHR KNR E2 E3 EX EF P0 P1 P2 e2 e3 ex ef p0 p1 p2
        have HX8 : Hid ((Go.Sort.grow (redrawn wr dq) osq).ownsRow V.heap.size 3 1 u8 (pickK (mayK P L k) (f + 1)).length ((pickK (mayK P L k) (f + 1)).map intV)) := by
          show World.ownsRow _ _ _ _ _ _ _
          rw [pick_no HMY.out]
          exact HOQ.out
        clear hlen
        go_wp2_with fail
        go_roundw
        case rel => exact ⟨f + 1, hlt, by go_num, HX8.out, hBQ⟩
        case measure => simp [intOf]; omega
      | true =>
        by_cases hnn : np = na
        · subst hnn
          have HMY : Hid (mayK P L k f = true) := by show _ = _; rw [HD.out]; simp
          go_upto_region 8 with fail
          refine wp_region_quiet_below (by kernel_rfl) (by kernel_rfl) ?_
          repeat (go_big_quiet_step (first | exact KHR _ _ | exact KNR _ _))
          refine wpQuiet_nil ?_
          intro _ hw'
          obtain ⟨⟨dq, osq⟩, hw''⟩ := hw'
          subst hw''
          have hBQ : Below V.heap.size V (Go.Sort.grow (redrawn wr dq) osq) := hB.trans ((below_regrown wr dq osq).mono hB.size)
          have HOQ : Hid ((Go.Sort.grow (redrawn wr dq) osq).ownsRow V.heap.size 3 1 u8 (pickK (mayK P L k) f).length ((pickK (mayK P L k) f).map intV)) := owns_below HO.out (below_regrown wr dq osq)
          clear KHR KNR E2 E3 EX EF P0 P1 P2 e2 e3 ex ef p0 p1 p2
          obtain ⟨wq, hwq⟩ : ∃ z, z = Go.Sort.grow (redrawn wr dq) osq := ⟨_, rfl⟩
          rw [← hwq] at hBQ HOQ ⊢
          clear hwq
          obtain ⟨v', w8, hr, ho3, hb8⟩ := append_int wq V.heap.size u8 _ HOQ.out hBQ.size (by omega) (f : Int) 40
          have HX8 : Hid (w8.ownsRow V.heap.size 3 1 v' (pickK (mayK P L k) (f + 1)).length ((pickK (mayK P L k) (f + 1)).map intV) ∧ Below V.heap.size V w8) := by
            refine ⟨?_, hBQ.trans hb8⟩
            rw [pick_yes HMY.out]
            exact ho3
          clear ho3 hb8 hlen
          go_wp2_with (at_builtin; refine Lib.wpList_append_run _ rfl _ _ _ _ rfl _ _ rfl rfl _ _ hr ?_)
          go_roundw
          case rel => exact ⟨f + 1, hlt, by go_num, HX8.out.1, HX8.out.2⟩
          case measure => simp [intOf]; omega
        · have HMY : Hid (mayK P L k f = false) := by show _ = _; rw [HD.out]; simp [hnn]
          have hd : decide ((np : Int) = (na : Int)) = false := decide_eq_false (by omega)
          have hd2 : ((np : Int) == (na : Int)) = false := beq_eq_false_iff_ne.2 (by omega)
          go_upto_region 8 with fail
          refine wp_region_quiet_below (by kernel_rfl) (by kernel_rfl) ?_
          repeat (go_big_quiet_step (first | exact KHR _ _ | exact KNR _ _))
          refine wpQuiet_nil ?_
          intro _ hw'
          obtain ⟨⟨dq, osq⟩, hw''⟩ := hw'
          subst hw''
          have hBQ : Below V.heap.size V (Go.Sort.grow (redrawn wr dq) osq) := hB.trans ((below_regrown wr dq osq).mono hB.size)
          have HOQ : Hid ((Go.Sort.grow (redrawn wr dq) osq).ownsRow V.heap.size 3 1 u8 (pickK (mayK P L k) f).length ((pickK (mayK P L k) f).map intV)) := owns_below HO.out (below_regrown wr dq osq)
          clear KHR KNR E2 E3 EX EF P0 P1 P2 e2 e3 ex ef p0 p1 p2
          have HX8 : Hid ((Go.Sort.grow (redrawn wr dq) osq).ownsRow V.heap.size 3 1 u8 (pickK (mayK P L k) (f + 1)).length ((pickK (mayK P L k) (f + 1)).map intV)) := by
            show World.ownsRow _ _ _ _ _ _ _
            rw [pick_no HMY.out]
            exact HOQ.out
          clear hlen
          go_wp2_with fail
          go_roundw
          case rel => exact ⟨f + 1, hlt, by go_num, HX8.out, hBQ⟩
          case measure => simp [intOf]; omega
    · go_wp2_with fail
      go_ret
      have hfn : f = nf := by omega
      have h1 := HO.out
      rw [hfn, ← HZ2.out] at h1
      obtain ⟨ya, yc, rfl⟩ := owns_form h1
      exact ⟨ya, yc, rfl, (isCap_of_owns h1).1, HBw.out⟩
end Go.Proofs.YteekjigaicmohaaGreatDoor

/-
  The document's IdleOf: what is idle, by a contract.
-/
namespace Go.Proofs.YteekjigaicmohaaGreatDoor
open Go.RowKit Go.Extern.Stop Go.Stop Go.Extern

theorem ptr_nil {L : List (List Int)} {n : Int} (h : (setAt L n).all (fun o => !decide (o < (L.length : Int))) = true) : decide ((ptrL L n).length = 0) = true := by
  rw [decide_eq_true_iff]
  unfold ptrL
  rw [List.length_eq_zero_iff, List.filter_eq_nil_iff]
  intro o ho
  have := List.all_eq_true.1 h o ho
  simpa using this
theorem all_no {L : List (List Int)} {n : Int} (j : Nat) (hj : j < (setAt L n).length) (h : (setAt L n).getD j 0 < (L.length : Int)) : (setAt L n).all (fun o => !decide (o < (L.length : Int))) = false := by
  rw [List.all_eq_false]
  exact ⟨_, mem_getDY 0 hj, by simpa using h⟩
theorem all_take {p : Int → Bool} {zs : List Int} {j : Nat} (hj : j < zs.length) (h1 : (zs.take j).all p = true) (h2 : p (zs.getD j 0) = true) : (zs.take (j + 1)).all p = true := by
  rw [take_snoc zs 0 j hj, List.all_append, h1, Bool.true_and]
  simpa using h2
set_option maxRecDepth 100000 in
set_option maxHeartbeats 32000000 in
theorem refIdle_any (P : ProgD) (L : List (List Int)) (hS : SmallP P) (hG : Good P L) (va : Option Addr) (vn vc : Nat) (v1 v2 v3 : Value) (w : World) (hP : IsProg w v1 v2 v3 P) (hI : IsSets w (.slice va vn vc) L) :
    Calls Tryz.prog 34 #[.agg #[v1, v2, v3], .slice va vn vc] w fun e w' => ∃ xa xc, e = .returned (.slice xa (pickK (idK P L) P.stmts.length).length xc) ∧ IsInts w' (.slice xa (pickK (idK P L) P.stmts.length).length xc) (pickK (idK P L) P.stmts.length) ∧ Below w.heap.size w w' := by
  have H : Hid (IsProg w v1 v2 v3 P ∧ IsSets w (.slice va vn vc) L ∧ SmallP P ∧ Good P L) := ⟨hP, hI, hS, hG⟩
  obtain ⟨⟨a1, c1, rfl, -, -⟩, ⟨a2, c2, rfl, -, -⟩, ⟨a3, c3, rfl, -, -⟩⟩ := hP
  obtain ⟨n1, hn1⟩ : ∃ m, m = P.vars.length := ⟨_, rfl⟩
  obtain ⟨n2, hn2⟩ : ∃ m, m = P.funs.length := ⟨_, rfl⟩
  obtain ⟨n3, hn3⟩ : ∃ m, m = P.stmts.length := ⟨_, rfl⟩
  rw [← hn1, ← hn2, ← hn3] at H ⊢
  have HN : Hid (n3 = P.stmts.length) := hn3
  have hvn : vn = L.length := by
    obtain ⟨_, _, e, _⟩ := hI
    injection e
  have hn80 : n3 ≤ 80 := by rw [hn3]; exact hG.len.2.2.2.2
  have hL200 : L.length ≤ 200 := hG.len.1
  obtain ⟨W, hW⟩ : ∃ W, W = w.alloc (prgBox (.slice a1 n1 c1) (.slice a2 n2 c2) (.slice a3 n3 c3)) := ⟨_, rfl⟩
  have hBW : Below w.heap.size w W := by rw [hW]; exact below1 w _
  have HX : Hid (Below w.heap.size w W ∧ Box3 W w.heap.size (.slice a1 n1 c1) (.slice a2 n2 c2) (.slice a3 n3 c3)) := ⟨hBW, by rw [hW]; exact box3_new w _ _ _ _⟩
  have HK : Hid (∀ k, k < n3 → ∃ sb so kd sx sy aa na ac, a3 = some ⟨sb, so, none⟩ ∧ w.cell? ⟨sb, so + k * 4, none⟩ = some (.string kd) ∧ w.cell? ⟨sb, so + k * 4 + 1, none⟩ = some (.int .i64 sx) ∧ w.cell? ⟨sb, so + k * 4 + 2, none⟩ = some (.int .i64 sy) ∧ w.cell? ⟨sb, so + k * 4 + 3, none⟩ = some (.slice aa na ac) ∧ kd.toList = (P.stmts.getD k default).kind ∧ sx = (P.stmts.getD k default).x ∧ sy = (P.stmts.getD k default).y) := fun k hk => by
    obtain ⟨a3', c3', e3, -, hst⟩ := H.out.1.stmts
    injection e3 with q1 q2 q3
    obtain ⟨sb, so, hs3, pv, s0, s1, s2, s3, ⟨-, aa, ac, rfl, -⟩⟩ := hst k (by rw [← HN.out]; exact hk)
    exact ⟨sb, so, _, _, _, aa, _, ac, by rw [q1, hs3], s0, s1, s2, s3, S_toList _, rfl, rfl⟩
  have HR : Hid (∀ (j : Nat), j < vn → ∃ b o ra rc, va = some ⟨b, o, none⟩ ∧ w.cell? ⟨b, o + j, none⟩ = some (.slice ra (setAt L (j : Int)).length rc) ∧ ∀ i, i < (setAt L (j : Int)).length → ∃ b' o', ra = some ⟨b', o', none⟩ ∧ w.cell? ⟨b', o' + i, none⟩ = some (.int .i64 ((setAt L (j : Int)).getD i 0))) := fun j hj => by
    obtain ⟨a', c', e', hr⟩ := hI
    injection e' with q1 q2 q3
    obtain ⟨b, o, u, e1, e2, e3⟩ := hr j (by rw [← q2]; exact hj)
    obtain ⟨ra, rc, rfl, hcs⟩ := isInts_cells e3
    refine ⟨b, o, ra, rc, by rw [q1, e1], ?_, ?_⟩
    · rw [show setAt L (j : Int) = L.getD j [] by unfold setAt; rw [Int.toNat_natCast]]; exact e2
    · rw [show setAt L (j : Int) = L.getD j [] by unfold setAt; rw [Int.toNat_natCast]]; exact hcs
  have HSL : Hid (∀ j : Nat, j < vn → (setAt L (j : Int)).length ≤ 200) := fun j hj => by
    rw [show setAt L (j : Int) = L.getD j [] by unfold setAt; rw [Int.toNat_natCast]]
    exact (hG.row j (by omega)).1
  have HVN : Hid (vn = L.length) := hvn
  clear hn1 hn2 hn3 hS hI hvn hG
  go_enter Tryz.func34, Tryz.ntmps34
  go_upto_region 1 with fail
  rw [← hW]
  clear hW hBW
  go_wp2_with fail
  go_loopw [5, 6] (fun u t wr => ∃ k : Nat, k ≤ n3 ∧ t = .int .i64 k ∧ wr.ownsRow W.heap.size 3 1 u (pickK (idK P L) k).length ((pickK (idK P L) k).map intV) ∧ Below W.heap.size W wr) (fun _ t _ => (n3 - intOf t).toNat)
  case atStart => exact ⟨0, Nat.zero_le _, rfl, World.ownsRow_nil _ _ _ _, Below.refl _ _⟩
  case round =>
    obtain ⟨k, hk, rfl, ho, hB⟩ := hrel
    have HO : Hid (wr.ownsRow W.heap.size 3 1 u5 (pickK (idK P L) k).length ((pickK (idK P L) k).map intV)) := ho
    have hlen := pick_len (idK P L) k
    have HBw : Hid (Below w.heap.size w wr) := bthenY HX.out.1 hB
    obtain ⟨p0, p1, p2⟩ := HX.out.2.below hB
    clear ho
    by_cases hlt : k < n3
    case neg =>
      go_wp2_with fail
      go_ret
      have hkn : k = n3 := by omega
      have h1 := HO.out
      rw [hkn] at h1
      obtain ⟨ya, yc, rfl⟩ := owns_form h1
      exact ⟨ya, yc, rfl, (isCap_of_owns h1).1, HBw.out⟩
    case pos =>
    have hki : (k : Int) < n3 := by omega
    obtain ⟨sb, so, kd, sx, sy, aa, na, ac, rfl, s0, s1, s2, s3, hkd, hsx, hsy⟩ := HK.out k hlt
    replace s0 := cell_keep HBw.out s0
    replace s1 := cell_keep HBw.out s1
    replace s2 := cell_keep HBw.out s2
    replace s3 := cell_keep HBw.out s3
    have hkS : k < P.stmts.length := by rw [← HN.out]; exact hlt
    obtain ⟨⟨X, hX, hXn⟩, hYY, -⟩ := H.out.2.2.2.stm (mem_getDY default hkS)
    have hvl := H.out.2.2.2.len.2.1
    have HXY : Hid (sx = (X : Int) ∧ X < vn ∧ (kd.toList = kLoad → ∃ Y : Nat, sy = (Y : Int) ∧ Y < vn)) := ⟨by rw [hsx, hX], by have := HVN.out; omega, fun e => by
      obtain ⟨Y, h1, h2⟩ := hYY (Or.inl (by rw [← hkd]; exact e))
      exact ⟨Y, by rw [hsy, h1], by have := HVN.out; omega⟩⟩
    have hkk := rule_kinds kd.toList
    have HID : Hid ((kd.toList = kLoad → idK P L k = decide ((ptrL L sy).length = 0)) ∧ (kd.toList = kStore → idK P L k = decide ((ptrL L sx).length = 0)) ∧ (kd.toList = kCall → idK P L k = decide ((calledL P L (P.stmts.getD k default)).length = 0)) ∧ (kd.toList ≠ kLoad ∧ kd.toList ≠ kCall ∧ kd.toList ≠ kStore → idK P L k = false)) := by
      refine ⟨fun e => ?_, fun e => ?_, fun e => ?_, fun e => ?_⟩
      · unfold idK idleL; rw [if_pos (by rw [← hkd]; exact e), hsy]
      · unfold idK idleL; rw [if_neg (by rw [← hkd, e]; decide), if_pos (by rw [← hkd]; exact e), hsx]
      · unfold idK idleL; rw [if_neg (by rw [← hkd, e]; decide), if_neg (by rw [← hkd, e]; decide), if_pos (by rw [← hkd]; exact e)]
      · unfold idK idleL; rw [if_neg (by rw [← hkd]; exact e.1), if_neg (by rw [← hkd]; exact e.2.2), if_neg (by rw [← hkd]; exact e.2.1)]
    obtain ⟨V, hV⟩ : ∃ V, V = wr.alloc (stmBox kd sx sy (.slice aa na ac)) := ⟨_, rfl⟩
    have hBV : Below wr.heap.size wr V := by rw [hV]; exact below1 wr _
    have HVB : Hid (V.heap[wr.heap.size]? = some (stmBox kd sx sy (.slice aa na ac)) ∧ Below W.heap.size W V ∧ Below w.heap.size w V ∧ V.ownsRow W.heap.size 3 1 u5 (pickK (idK P L) k).length ((pickK (idK P L) k).map intV)) := ⟨by rw [hV]; exact heap_new wr _, hB.trans (hBV.mono hB.size), bthenY HBw.out hBV, owns_below HO.out hBV⟩
    clear hkd hsx hsy hX hXn hYY hvl hkS hB
    go_upto_region 6 with fail
    rw [← hV]
    clear hV hBV s0 s1 s2 s3 p0 p1 p2
    obtain ⟨bx, hbx⟩ : ∃ b, b = wr.heap.size := ⟨_, rfl⟩
    rw [← hbx] at HVB ⊢
    clear hbx
    have t0 : V.cell? ⟨bx, 0, none⟩ = some (.string kd) := by rw [Lib.cell_of_heap HVB.out.1]; rfl
    have t1 : V.cell? ⟨bx, 1, none⟩ = some (.int .i64 sx) := by rw [Lib.cell_of_heap HVB.out.1]; rfl
    have t2 : V.cell? ⟨bx, 2, none⟩ = some (.int .i64 sy) := by rw [Lib.cell_of_heap HVB.out.1]; rfl
    rcases hkk with ⟨hK, g1, g2, g3⟩ | ⟨hK, g1, g2, g3⟩ | ⟨hK, g1, g2, g3⟩ | ⟨hK, g1, g2, g3⟩
    · obtain ⟨A, rfl, hA⟩ := HXY.out.2.2 hK
      have HDA : Hid (idK P L k = decide ((ptrL L (A : Int)).length = 0)) := HID.out.1 hK
      obtain ⟨lb, lo, ra, rc, rfl, x0, hcs⟩ := HR.out A hA
      replace x0 := cell_keep HVB.out.2.2.1 x0
      have hml := HSL.out A hA
      have hAi : (A : Int) < vn := by omega
      obtain ⟨m, hm⟩ : ∃ m, m = (setAt L (A : Int)).length := ⟨_, rfl⟩
      rw [← hm] at x0 hml
      have HC : Hid ((∀ i, i < m → ∃ b' o', ra = some ⟨b', o', none⟩ ∧ V.cell? ⟨b', o' + i, none⟩ = some (.int .i64 ((setAt L (A : Int)).getD i 0))) ∧ m = (setAt L (A : Int)).length) := ⟨fun i hi => by
        obtain ⟨b', o', h1, h2⟩ := hcs i (by rw [← hm]; exact hi)
        exact ⟨b', o', h1, cell_keep HVB.out.2.2.1 h2⟩, hm⟩
      clear hcs hm hK hA
      go_wp2_with fail
      clear t0 t1 t2
      go_loopw [9, 10] (fun b t wq => ∃ (i : Nat) (B : Bool), i ≤ m ∧ t = .int .i64 i ∧ b = .bool B ∧ wq = V ∧ ((B = true ∧ ((setAt L (A : Int)).take i).all (fun o => !decide (o < (L.length : Int))) = true) ∨ (B = false ∧ (setAt L (A : Int)).all (fun o => !decide (o < (L.length : Int))) = false))) (fun _ t _ => (m - intOf t).toNat)
      case atStart => exact ⟨0, true, Nat.zero_le _, rfl, rfl, rfl, Or.inl ⟨rfl, by simp⟩⟩
      case round =>
        obtain ⟨i, B, hi, rfl, rfl, rfl, hcase⟩ := hrel
        rcases hcase with ⟨rfl, hall⟩ | ⟨rfl, hno⟩
        · by_cases hlti : i < m
          · have hii : (i : Int) < m := by omega
            obtain ⟨b', o', rfl, ec⟩ := HC.out.1 i hlti
            obtain ⟨z, hz⟩ : ∃ z, z = (setAt L (A : Int)).getD i 0 := ⟨_, rfl⟩
            rw [← hz] at ec
            have HALL : Hid (((setAt L (A : Int)).take i).all (fun o => !decide (o < (L.length : Int))) = true ∧ z = (setAt L (A : Int)).getD i 0 ∧ i < (setAt L (A : Int)).length) := ⟨hall, hz, by rw [← HC.out.2]; exact hlti⟩
            clear hall hz
            by_cases hzn : z < (vn : Int)
            · have HF : Hid ((setAt L (A : Int)).all (fun o => !decide (o < (L.length : Int))) = false) := all_no i HALL.out.2.2 (by rw [← HALL.out.2.1, ← HVN.out]; exact hzn)
              go_wp2_with fail
              go_roundw
              case rel => exact ⟨i + 1, false, hlti, by go_num, (by first | rfl | trivial), (by first | rfl | trivial), Or.inr ⟨rfl, HF.out⟩⟩
              case measure => simp [intOf]; omega
            · have HT : Hid (((setAt L (A : Int)).take (i + 1)).all (fun o => !decide (o < (L.length : Int))) = true) := all_take HALL.out.2.2 HALL.out.1 (by rw [← HALL.out.2.1, ← HVN.out]; simpa using hzn)
              go_wp2_with fail
              go_roundw
              case rel => exact ⟨i + 1, true, hlti, by go_num, (by first | rfl | trivial), (by first | rfl | trivial), Or.inl ⟨rfl, HT.out⟩⟩
              case measure => simp [intOf]; omega
          · have HE : Hid (idK P L k = true) := by
              show _ = _
              rw [HDA.out]
              refine ptr_nil ?_
              rw [List.take_of_length_le (by rw [← HC.out.2]; omega)] at hall
              exact hall
            have hin : ¬ (i : Int) < m := by omega
            have t0 : wr.cell? ⟨bx, 0, none⟩ = some (.string kd) := by rw [Lib.cell_of_heap HVB.out.1]; rfl
            clear hall
            obtain ⟨v', w8, hr, ho3, hb8⟩ := append_int wr W.heap.size u5 _ HVB.out.2.2.2 HVB.out.2.1.size (by omega) (k : Int) 40
            have HX8 : Hid (w8.ownsRow W.heap.size 3 1 v' (pickK (idK P L) (k + 1)).length ((pickK (idK P L) (k + 1)).map intV) ∧ Below W.heap.size W w8) := by
              refine ⟨?_, (HVB.out.2.1).trans hb8⟩
              rw [pick_yes HE.out]
              exact ho3
            clear ho3 hb8 hlen
            go_wp2_with (at_builtin; refine Lib.wpList_append_run _ rfl _ _ _ _ rfl _ _ rfl rfl _ _ hr ?_)
            go_roundw
            case rel => exact ⟨k + 1, hlt, by go_num, HX8.out.1, HX8.out.2⟩
            case measure => simp [intOf]; omega
        · have HE : Hid (idK P L k = false) := by
            show _ = _
            rw [HDA.out]
            exact ptr_some hno
          have t0 : wr.cell? ⟨bx, 0, none⟩ = some (.string kd) := by rw [Lib.cell_of_heap HVB.out.1]; rfl
          clear hno
          have HX8 : Hid ((wr).ownsRow W.heap.size 3 1 u5 (pickK (idK P L) (k + 1)).length ((pickK (idK P L) (k + 1)).map intV) ∧ Below W.heap.size W wr) := by
            refine ⟨?_, HVB.out.2.1⟩
            rw [pick_no HE.out]
            exact HVB.out.2.2.2
          clear hlen
          go_wp2_with fail
          go_roundw
          case rel => exact ⟨k + 1, hlt, by go_num, HX8.out.1, HX8.out.2⟩
          case measure => simp [intOf]; omega
    · have HDC : Hid (idK P L k = decide ((calledL P L (P.stmts.getD k default)).length = 0)) := HID.out.2.2.1 hK
      have KC : Hid _ := refCalled_any P L H.out.2.2.1 H.out.2.2.2 k (by rw [← HN.out]; exact hlt) va vn vc _ _ _ V (H.out.1.below HVB.out.2.2.1) (H.out.2.1.below HVB.out.2.2.1)
      obtain ⟨p0, p1, p2⟩ := HX.out.2.below HVB.out.2.1
      clear hK
      go_wp2_with fail
      go_loopw [9, 10] (fun b t wq => b = .bool false ∧ t = .int .i64 0 ∧ wq = V) (fun _ _ _ => 0)
      case atStart => exact ⟨rfl, rfl, rfl⟩
      case round =>
        obtain ⟨rfl, rfl, rfl⟩ := hrel
        go_wp2_with fail
        refine Calls.mono KC.out ?_
        rintro e w7 ⟨xa, xc, rfl, -, hb7⟩
        obtain ⟨m, hm⟩ : ∃ m, m = (calledL P L (P.stmts.getD k default)).length := ⟨_, rfl⟩
        rw [← hm] at HDC ⊢
        have HB7 : Hid (Below W.heap.size W w7 ∧ w7.ownsRow W.heap.size 3 1 u5 (pickK (idK P L) k).length ((pickK (idK P L) k).map intV)) := ⟨HVB.out.2.1.trans (hb7.mono HVB.out.2.1.size), owns_below HVB.out.2.2.2 hb7⟩
        clear KC hm hb7 t0 t1 t2 p0 p1 p2
        by_cases hm0 : m = 0
        · have HE : Hid (idK P L k = true) := by show _ = _; rw [HDC.out]; exact decide_eq_true hm0
          subst hm0
          obtain ⟨v', w8, hr, ho3, hb8⟩ := append_int w7 W.heap.size u5 _ HB7.out.2 HB7.out.1.size (by omega) (k : Int) 40
          have HX8 : Hid (w8.ownsRow W.heap.size 3 1 v' (pickK (idK P L) (k + 1)).length ((pickK (idK P L) (k + 1)).map intV) ∧ Below W.heap.size W w8) := by
            refine ⟨?_, (HB7.out.1).trans hb8⟩
            rw [pick_yes HE.out]
            exact ho3
          clear ho3 hb8 hlen
          go_wp2_with (at_builtin; refine Lib.wpList_append_run _ rfl _ _ _ _ rfl _ _ rfl rfl _ _ hr ?_)
          go_roundw
          case rel => exact ⟨k + 1, hlt, by go_num, HX8.out.1, HX8.out.2⟩
          case measure => simp [intOf]; omega
        · have HE : Hid (idK P L k = false) := by show _ = _; rw [HDC.out]; exact decide_eq_false hm0
          have hmi : ¬ (m : Int) = 0 := by omega
          have HX8 : Hid ((w7).ownsRow W.heap.size 3 1 u5 (pickK (idK P L) (k + 1)).length ((pickK (idK P L) (k + 1)).map intV) ∧ Below W.heap.size W w7) := by
            refine ⟨?_, HB7.out.1⟩
            rw [pick_no HE.out]
            exact HB7.out.2
          clear hlen
          go_wp2_with fail
          go_roundw
          case rel => exact ⟨k + 1, hlt, by go_num, HX8.out.1, HX8.out.2⟩
          case measure => simp [intOf]; omega
    · obtain ⟨A, hAe, hA⟩ : ∃ A : Nat, sx = (A : Int) ∧ A < vn := ⟨X, HXY.out.1, HXY.out.2.1⟩
      subst hAe
      have HDA : Hid (idK P L k = decide ((ptrL L (A : Int)).length = 0)) := HID.out.2.1 hK
      obtain ⟨lb, lo, ra, rc, rfl, x0, hcs⟩ := HR.out A hA
      replace x0 := cell_keep HVB.out.2.2.1 x0
      have hml := HSL.out A hA
      have hAi : (A : Int) < vn := by omega
      obtain ⟨m, hm⟩ : ∃ m, m = (setAt L (A : Int)).length := ⟨_, rfl⟩
      rw [← hm] at x0 hml
      have HC : Hid ((∀ i, i < m → ∃ b' o', ra = some ⟨b', o', none⟩ ∧ V.cell? ⟨b', o' + i, none⟩ = some (.int .i64 ((setAt L (A : Int)).getD i 0))) ∧ m = (setAt L (A : Int)).length) := ⟨fun i hi => by
        obtain ⟨b', o', h1, h2⟩ := hcs i (by rw [← hm]; exact hi)
        exact ⟨b', o', h1, cell_keep HVB.out.2.2.1 h2⟩, hm⟩
      clear hcs hm hK hA
      go_wp2_with fail
      clear t0 t1 t2
      go_loopw [9, 10] (fun b t wq => ∃ (i : Nat) (B : Bool), i ≤ m ∧ t = .int .i64 i ∧ b = .bool B ∧ wq = V ∧ ((B = true ∧ ((setAt L (A : Int)).take i).all (fun o => !decide (o < (L.length : Int))) = true) ∨ (B = false ∧ (setAt L (A : Int)).all (fun o => !decide (o < (L.length : Int))) = false))) (fun _ t _ => (m - intOf t).toNat)
      case atStart => exact ⟨0, true, Nat.zero_le _, rfl, rfl, rfl, Or.inl ⟨rfl, by simp⟩⟩
      case round =>
        obtain ⟨i, B, hi, rfl, rfl, rfl, hcase⟩ := hrel
        rcases hcase with ⟨rfl, hall⟩ | ⟨rfl, hno⟩
        · by_cases hlti : i < m
          · have hii : (i : Int) < m := by omega
            obtain ⟨b', o', rfl, ec⟩ := HC.out.1 i hlti
            obtain ⟨z, hz⟩ : ∃ z, z = (setAt L (A : Int)).getD i 0 := ⟨_, rfl⟩
            rw [← hz] at ec
            have HALL : Hid (((setAt L (A : Int)).take i).all (fun o => !decide (o < (L.length : Int))) = true ∧ z = (setAt L (A : Int)).getD i 0 ∧ i < (setAt L (A : Int)).length) := ⟨hall, hz, by rw [← HC.out.2]; exact hlti⟩
            clear hall hz
            by_cases hzn : z < (vn : Int)
            · have HF : Hid ((setAt L (A : Int)).all (fun o => !decide (o < (L.length : Int))) = false) := all_no i HALL.out.2.2 (by rw [← HALL.out.2.1, ← HVN.out]; exact hzn)
              go_wp2_with fail
              go_roundw
              case rel => exact ⟨i + 1, false, hlti, by go_num, (by first | rfl | trivial), (by first | rfl | trivial), Or.inr ⟨rfl, HF.out⟩⟩
              case measure => simp [intOf]; omega
            · have HT : Hid (((setAt L (A : Int)).take (i + 1)).all (fun o => !decide (o < (L.length : Int))) = true) := all_take HALL.out.2.2 HALL.out.1 (by rw [← HALL.out.2.1, ← HVN.out]; simpa using hzn)
              go_wp2_with fail
              go_roundw
              case rel => exact ⟨i + 1, true, hlti, by go_num, (by first | rfl | trivial), (by first | rfl | trivial), Or.inl ⟨rfl, HT.out⟩⟩
              case measure => simp [intOf]; omega
          · have HE : Hid (idK P L k = true) := by
              show _ = _
              rw [HDA.out]
              refine ptr_nil ?_
              rw [List.take_of_length_le (by rw [← HC.out.2]; omega)] at hall
              exact hall
            have hin : ¬ (i : Int) < m := by omega
            have t0 : wr.cell? ⟨bx, 0, none⟩ = some (.string kd) := by rw [Lib.cell_of_heap HVB.out.1]; rfl
            clear hall
            obtain ⟨v', w8, hr, ho3, hb8⟩ := append_int wr W.heap.size u5 _ HVB.out.2.2.2 HVB.out.2.1.size (by omega) (k : Int) 40
            have HX8 : Hid (w8.ownsRow W.heap.size 3 1 v' (pickK (idK P L) (k + 1)).length ((pickK (idK P L) (k + 1)).map intV) ∧ Below W.heap.size W w8) := by
              refine ⟨?_, (HVB.out.2.1).trans hb8⟩
              rw [pick_yes HE.out]
              exact ho3
            clear ho3 hb8 hlen
            go_wp2_with (at_builtin; refine Lib.wpList_append_run _ rfl _ _ _ _ rfl _ _ rfl rfl _ _ hr ?_)
            go_roundw
            case rel => exact ⟨k + 1, hlt, by go_num, HX8.out.1, HX8.out.2⟩
            case measure => simp [intOf]; omega
        · have HE : Hid (idK P L k = false) := by
            show _ = _
            rw [HDA.out]
            exact ptr_some hno
          have t0 : wr.cell? ⟨bx, 0, none⟩ = some (.string kd) := by rw [Lib.cell_of_heap HVB.out.1]; rfl
          clear hno
          have HX8 : Hid ((wr).ownsRow W.heap.size 3 1 u5 (pickK (idK P L) (k + 1)).length ((pickK (idK P L) (k + 1)).map intV) ∧ Below W.heap.size W wr) := by
            refine ⟨?_, HVB.out.2.1⟩
            rw [pick_no HE.out]
            exact HVB.out.2.2.2
          clear hlen
          go_wp2_with fail
          go_roundw
          case rel => exact ⟨k + 1, hlt, by go_num, HX8.out.1, HX8.out.2⟩
          case measure => simp [intOf]; omega
    · have HE : Hid (idK P L k = false) := HID.out.2.2.2 hK
      clear hK
      go_wp2_with fail
      go_loopw [9, 10] (fun b t wq => b = .bool false ∧ t = .int .i64 0 ∧ wq = V) (fun _ _ _ => 0)
      case atStart => exact ⟨rfl, rfl, rfl⟩
      case round =>
        obtain ⟨rfl, rfl, rfl⟩ := hrel
        have HX8 : Hid ((wr).ownsRow W.heap.size 3 1 u5 (pickK (idK P L) (k + 1)).length ((pickK (idK P L) (k + 1)).map intV) ∧ Below W.heap.size W wr) := by
          refine ⟨?_, HVB.out.2.1⟩
          rw [pick_no HE.out]
          exact HVB.out.2.2.2
        clear hlen
        go_wp2_with fail
        go_roundw
        case rel => exact ⟨k + 1, hlt, by go_num, HX8.out.1, HX8.out.2⟩
        case measure => simp [intOf]; omega
end Go.Proofs.YteekjigaicmohaaGreatDoor

/-
  The document's WritesOf: what is written, by a contract.
-/
namespace Go.Proofs.YteekjigaicmohaaGreatDoor
open Go.RowKit Go.Extern.Stop Go.Stop Go.Extern

theorem norm_canon_of {xs ys : List Int} (hin : InB ys) (h : ∀ x, x ∈ xs ↔ x ∈ ys) : norm xs = canon ys := by
  rw [norm_congr h]
  exact norm_eq_canon hin
theorem ptr_set {P : ProgD} {L : List (List Int)} (hG : Good P L) {X : Nat} (hX : X < L.length) : norm (ptrL L (X : Int)) = ptrL L (X : Int) := by
  refine rise_ext _ _ (norm_rise _) ?_ (fun x => norm_mem _ _)
  unfold ptrL
  rw [show setAt L (X : Int) = L.getD X [] by unfold setAt; rw [Int.toNat_natCast]]
  exact List.Pairwise.filter _ (hG.sets.set X hX).pairwise
set_option maxRecDepth 100000 in
set_option maxHeartbeats 32000000 in
theorem refWrites_any (P : ProgD) (L : List (List Int)) (hS : SmallP P) (hG : Good P L) (k : Nat) (hk : k < P.stmts.length) (va : Option Addr) (vn vc : Nat) (v1 v2 v3 : Value) (w : World) (hP : IsProg w v1 v2 v3 P) (hI : IsSets w (.slice va vn vc) L) :
    Calls Tryz.prog 36 #[.agg #[v1, v2, v3], .slice va vn vc, .int .i64 (k : Int)] w fun e w' => ∃ v', e = .returned v' ∧ IsInts w' v' (norm (changedL P L (P.stmts.getD k default))) ∧ Below w.heap.size w w' := by
  have H : Hid (IsProg w v1 v2 v3 P ∧ IsSets w (.slice va vn vc) L ∧ SmallP P ∧ Good P L ∧ k < P.stmts.length) := ⟨hP, hI, hS, hG, hk⟩
  obtain ⟨⟨a1, c1, rfl, -, -⟩, ⟨a2, c2, rfl, -, hfs⟩, ⟨a3, c3, rfl, -, hst⟩⟩ := hP
  obtain ⟨sb, so, rfl, pv, s0, s1, s2, s3, ⟨-, aa, ac, rfl, -⟩⟩ := hst k hk
  obtain ⟨n1, hn1⟩ : ∃ m, m = P.vars.length := ⟨_, rfl⟩
  obtain ⟨nf, hnf⟩ : ∃ m, m = P.funs.length := ⟨_, rfl⟩
  obtain ⟨n3, hn3⟩ : ∃ m, m = P.stmts.length := ⟨_, rfl⟩
  have HKS : Hid (k < P.stmts.length) := hk
  rw [← hn1, ← hnf, ← hn3] at H ⊢
  have hki : (k : Int) < n3 := by omega
  have hvn : vn = L.length := by
    obtain ⟨_, _, e, _⟩ := hI
    injection e
  have hL200 : L.length ≤ 200 := hG.len.1
  obtain ⟨⟨X, hX, hXn⟩, -, -⟩ := hG.stm (mem_getDY default hk)
  have hvl := hG.len.2.1
  have hci := called_in hG (mem_getDY default hk)
  have hin := changed_in hG (mem_getDY default hk)
  obtain ⟨kd, hkd⟩ : ∃ z, z = S (P.stmts.getD k default).kind := ⟨_, rfl⟩
  obtain ⟨sy, hsy⟩ : ∃ z, z = (P.stmts.getD k default).y := ⟨_, rfl⟩
  obtain ⟨na, hna⟩ : ∃ z, z = (P.stmts.getD k default).args.length := ⟨_, rfl⟩
  rw [← hkd] at s0
  rw [hX] at s1
  rw [← hsy] at s2
  rw [← hna] at s3
  have HKD : Hid (kd.toList = (P.stmts.getD k default).kind ∧ (P.stmts.getD k default).x = (X : Int) ∧ X < L.length) := ⟨by rw [hkd, S_toList], hX, by omega⟩
  have hkk := rule_kinds kd.toList
  have HFN : Hid (∀ f : Nat, f < nf → ∃ b o pa pc, a2 = some ⟨b, o, none⟩ ∧ w.cell? ⟨b, o + f * 3 + 1, none⟩ = some (.slice pa (P.funs.getD f default).params.length pc) ∧ IsInts w (.slice pa (P.funs.getD f default).params.length pc) (P.funs.getD f default).params ∧ (P.funs.getD f default).params.length ≤ 3) := fun f hf => by
    obtain ⟨b, o, q1, pv, -, q3, ⟨q4, pa, pc, rfl, -⟩, -⟩ := hfs f (by omega)
    exact ⟨b, o, pa, pc, q1, q3, q4, right_params3 hG.right _ (mem_getDY _ (by omega))⟩
  have HCI : Hid ((∀ f ∈ calledL P L (P.stmts.getD k default), 0 ≤ f ∧ f < (nf : Int)) ∧ (calledL P L (P.stmts.getD k default)).length ≤ 200 ∧ (∀ x ∈ changedL P L (P.stmts.getD k default), 0 ≤ x ∧ x < (L.length : Int)) ∧ L.length ≤ 200) := ⟨by rw [hnf]; exact hci.1, hci.2, hin.1, hL200⟩
  obtain ⟨W, hW⟩ : ∃ W, W = w.alloc (prgBox (.slice a1 n1 c1) (.slice a2 nf c2) (.slice (some ⟨sb, so, none⟩) n3 c3)) := ⟨_, rfl⟩
  have hBW : Below w.heap.size w W := by rw [hW]; exact below1 w _
  have hBox : Box3 W w.heap.size (.slice a1 n1 c1) (.slice a2 nf c2) (.slice (some ⟨sb, so, none⟩) n3 c3) := by rw [hW]; exact box3_new w _ _ _ _
  obtain ⟨V, hV⟩ : ∃ V, V = W.alloc (stmBox kd (X : Int) sy (.slice aa na ac)) := ⟨_, rfl⟩
  have hBV : Below W.heap.size W V := by rw [hV]; exact below1 W _
  have HB : Hid (V.heap[W.heap.size]? = some (stmBox kd (X : Int) sy (.slice aa na ac))) := by show _ = _; rw [hV]; exact heap_new W _
  have HVX : Hid (Below w.heap.size w V ∧ Box3 V w.heap.size (.slice a1 n1 c1) (.slice a2 nf c2) (.slice (some ⟨sb, so, none⟩) n3 c3)) := ⟨bthenY hBW hBV, hBox.below hBV⟩
  have HR : Hid (∃ b o ra rc, va = some ⟨b, o, none⟩ ∧ V.cell? ⟨b, o + X, none⟩ = some (.slice ra (setAt L (X : Int)).length rc) ∧ IsInts V (.slice ra (setAt L (X : Int)).length rc) (setAt L (X : Int)) ∧ (setAt L (X : Int)).length ≤ 200) := by
    obtain ⟨a', c', e', hr⟩ := hI
    injection e' with q1 q2 q3
    obtain ⟨b, o, u, e1, e2, e3⟩ := hr X (by omega)
    obtain ⟨ra, rc, rfl⟩ := isInts_form e3
    refine ⟨b, o, ra, rc, by rw [q1, e1], ?_, ?_, ?_⟩
    · rw [show setAt L (X : Int) = L.getD X [] by unfold setAt; rw [Int.toNat_natCast]]; exact cell_keep (bthenY hBW hBV) e2
    · rw [show setAt L (X : Int) = L.getD X [] by unfold setAt; rw [Int.toNat_natCast]]; exact e3.below (bthenY hBW hBV)
    · rw [show setAt L (X : Int) = L.getD X [] by unfold setAt; rw [Int.toNat_natCast]]; exact (hG.row X (by omega)).1
  replace s0 := cell_keep hBW s0
  replace s1 := cell_keep hBW s1
  replace s2 := cell_keep hBW s2
  replace s3 := cell_keep hBW s3
  obtain ⟨p0, p1, p2⟩ := hBox
  have HVN : Hid (vn = L.length) := hvn
  have hXi : (X : Int) < vn := by omega
  have hvn200 : vn ≤ 200 := by omega
  clear hst hfs hI hG hS hk hkd hsy hna hX hXn hvl hci hin hvn hn1 hnf hn3
  go_enter Tryz.func36, Tryz.ntmps36
  go_upto_region 1 with fail
  rw [← hW]
  clear hW hBW
  go_upto_region 2 with fail
  rw [← hV]
  clear hV hBV s0 s1 s2 s3 p0 p1 p2
  obtain ⟨bx, hbx⟩ : ∃ b, b = W.heap.size := ⟨_, rfl⟩
  rw [← hbx] at HB ⊢
  clear hbx
  have t0 : V.cell? ⟨bx, 0, none⟩ = some (.string kd) := by rw [Lib.cell_of_heap HB.out]; rfl
  have t1 : V.cell? ⟨bx, 1, none⟩ = some (.int .i64 (X : Int)) := by rw [Lib.cell_of_heap HB.out]; rfl
  have HD : Hid ((kd.toList = kStore → changedL P L (P.stmts.getD k default) = ptrL L (X : Int)) ∧ (kd.toList = kCall → changedL P L (P.stmts.getD k default) = callingL P (X : Int) (calledL P L (P.stmts.getD k default))) ∧ (kd.toList ≠ kStore ∧ kd.toList ≠ kCall → changedL P L (P.stmts.getD k default) = [(X : Int)])) := by
    refine ⟨fun e => ?_, fun e => ?_, fun e => ?_⟩
    · unfold changedL; rw [if_pos (by rw [← HKD.out.1]; exact e), HKD.out.2.1]
    · unfold changedL; rw [if_neg (by rw [← HKD.out.1, e]; decide), if_pos (by rw [← HKD.out.1]; exact e), HKD.out.2.1]
    · unfold changedL; rw [if_neg (by rw [← HKD.out.1]; exact e.1), if_neg (by rw [← HKD.out.1]; exact e.2), HKD.out.2.1]
  have HSET : Hid (∀ wx v zs, Below V.heap.size V wx → IsInts wx v zs → InB zs → zs.length ≤ 1000000 → (∀ x, x ∈ changedL P L (P.stmts.getD k default) ↔ x ∈ zs) → Calls Tryz.prog 77 #[v] wx fun e w' => ∃ v', e = .returned v' ∧ IsInts w' v' (norm (changedL P L (P.stmts.getD k default))) ∧ Below w.heap.size w w') := fun wx v zs hb hi hin hl hm => by
    refine (ref_setOf zs v wx hl hi hin).mono ?_
    rintro e w' ⟨v', rfl, h1, h2⟩
    exact ⟨v', rfl, by rw [norm_canon_of hin hm]; exact h1, bthenY (bthenY HVX.out.1 hb) h2⟩
  rcases hkk with ⟨hK, g1, g2, g3⟩ | ⟨hK, g1, g2, g3⟩ | ⟨hK, g1, g2, g3⟩ | ⟨hK, g1, g2, g3⟩
  · have hke := HD.out.2.2 ⟨by rw [hK]; decide, by rw [hK]; decide⟩
    have HKE : Hid (changedL P L (P.stmts.getD k default) = [(X : Int)]) := hke
    obtain ⟨v', w2, hr, ho, hb2⟩ := append_int V V.heap.size (.slice none 0 0) [] (World.ownsRow_nil _ _ _ _) (Nat.le_refl _) (by simp) (X : Int) 40
    have KS : Hid _ := HSET.out w2 v' [(X : Int)] hb2 (isCap_of_owns ho).1 (by
      refine inB_of fun x hx => ?_
      rw [List.mem_singleton.1 hx]
      have := HKD.out.2.2
      have := HCI.out.2.2.2
      omega) (by simp) (fun x => by rw [hke])
    clear hK hke ho hb2
    go_wp2_with (at_builtin; refine Lib.wpList_append_run _ rfl _ _ _ _ rfl _ _ rfl rfl _ _ hr ?_)
    refine Calls.mono KS.out ?_
    rintro e w9 ⟨v9, rfl, hi9, hb9⟩
    obtain ⟨ya, yc, rfl⟩ := isInts_form hi9
    have HR9 : Hid (IsInts w9 (.slice ya (norm (changedL P L (P.stmts.getD k default))).length yc) (norm (changedL P L (P.stmts.getD k default))) ∧ Below w.heap.size w w9) := ⟨hi9, hb9⟩
    clear hi9 hb9 KS
    go_wp2_with fail
    go_ret
    exact ⟨_, rfl, HR9.out.1, HR9.out.2⟩
  · have HKE : Hid (changedL P L (P.stmts.getD k default) = callingL P (X : Int) (calledL P L (P.stmts.getD k default))) := HD.out.2.1 hK
    have KC : Hid _ := refCalled_any P L H.out.2.2.1 H.out.2.2.2.1 k HKS.out va vn vc _ _ _ V (H.out.1.below HVX.out.1) (H.out.2.1.below HVX.out.1)
    obtain ⟨p0, p1, p2⟩ := HVX.out.2
    clear hK
    go_wp2_with fail
    refine Calls.mono KC.out ?_
    rintro e w7 ⟨xa, xc, rfl, hi7, hb7⟩
    obtain ⟨cs, hcs⟩ : ∃ m, m = calledL P L (P.stmts.getD k default) := ⟨_, rfl⟩
    rw [← hcs] at HKE hi7 ⊢
    have HCS : Hid (cs = calledL P L (P.stmts.getD k default)) := hcs
    obtain ⟨xa', xc', e7, hce⟩ := isInts_cells hi7
    cases e7
    obtain ⟨m, hm⟩ : ∃ m, m = cs.length := ⟨_, rfl⟩
    have hm200 : m ≤ 200 := by rw [hm, hcs]; exact HCI.out.2.1
    rw [← hm] at hce ⊢
    obtain ⟨p, hp⟩ : ∃ p : Int → List Int, p = fun f => (P.funs.getD f.toNat default).params := ⟨_, rfl⟩
    have HC : Hid (m = cs.length ∧ ∀ j, j < m → ∃ b o i b2 o2 pa pc zs, xa = some ⟨b, o, none⟩ ∧ w7.cell? ⟨b, o + j, none⟩ = some (.int .i64 ((i : Nat) : Int)) ∧ i < nf ∧ a2 = some ⟨b2, o2, none⟩ ∧ w7.cell? ⟨b2, o2 + i * 3 + 1, none⟩ = some (.slice pa zs.length pc) ∧ IsInts w7 (.slice pa zs.length pc) zs ∧ zs.length ≤ 3 ∧ p (cs.getD j 0) = zs) := ⟨hm, fun j hj => by
      obtain ⟨b, o, q1, q2⟩ := hce j hj
      obtain ⟨q3, q4⟩ := HCI.out.1 (cs.getD j 0) (by rw [← hcs]; exact mem_getDY 0 (by rw [← hm]; exact hj))
      obtain ⟨b2, o2, pa, pc, q5, q6, q7, q8⟩ := HFN.out (cs.getD j 0).toNat (by omega)
      have hw7 := bthenY HVX.out.1 hb7
      exact ⟨b, o, (cs.getD j 0).toNat, b2, o2, pa, pc, _, q1, by rw [Int.toNat_of_nonneg q3]; exact q2, by omega, q5, cell_keep hw7 q6, q7.below hw7, q8, by rw [hp]⟩⟩
    have HPL : Hid (∀ j, j ≤ m → ((cs.take j).flatMap p).length ≤ 600) := fun j hj => by
      have h1 := flat_len (cs.take j) p 3 (fun f hf => by
        obtain ⟨q3, q4⟩ := HCI.out.1 f (by rw [← hcs]; exact List.mem_of_mem_take hf)
        obtain ⟨-, -, -, -, -, -, -, q8⟩ := HFN.out f.toNat (by omega)
        rw [hp]
        exact q8)
      have h2 := List.length_take_le j cs
      have h3 : (cs.take j).length * 3 ≤ 200 * 3 := Nat.mul_le_mul (by omega) (Nat.le_refl _)
      omega
    have HPP : Hid (p = fun f => (P.funs.getD f.toNat default).params) := hp
    have HB7 : Hid (Below V.heap.size V w7 ∧ Below w.heap.size w w7) := ⟨hb7, bthenY HVX.out.1 hb7⟩
    replace p0 := cell_keep hb7 p0
    replace p1 := cell_keep hb7 p1
    replace p2 := cell_keep hb7 p2
    replace t1 := cell_keep hb7 t1
    clear KC hi7 hce hcs hp t0 hb7
    by_cases hm0 : m = 0
    · have HN0 : Hid (changedL P L (P.stmts.getD k default) = []) := by
        show _ = _
        have hc0 : cs = [] := List.eq_nil_of_length_eq_zero (by rw [← HC.out.1]; exact hm0)
        rw [HKE.out, hc0]
        unfold callingL
        rw [if_pos rfl]
      clear hm
      subst hm0
      go_wp2_with fail
      go_ret
      exact ⟨.slice none 0 0, rfl, by rw [HN0.out, norm_nil]; exact IsInts.nil _ _ _, HB7.out.2⟩
    · have hmi : ¬ (m : Int) = 0 := by omega
      clear hm
      go_wp2_with fail
      rw [show ((m : Int) == 0) = false from beq_eq_false_iff_ne.2 hmi]
      clear hmi p0 p1 p2
      go_loopw [8, 11] (fun u t wr => ∃ j : Nat, j ≤ m ∧ t = .int .i64 j ∧ wr.ownsRow w7.heap.size 3 1 u ((cs.take j).flatMap p).length (((cs.take j).flatMap p).map (Value.int .i64)) ∧ Below w7.heap.size w7 wr) (fun _ t _ => (m - intOf t).toNat)
      case atStart => exact ⟨0, Nat.zero_le _, rfl, World.ownsRow_nil _ _ _ _, Below.refl _ _⟩
      case round =>
        obtain ⟨j, hj, rfl, ho, hB⟩ := hrel
        have HO : Hid (wr.ownsRow w7.heap.size 3 1 u8 ((cs.take j).flatMap p).length (((cs.take j).flatMap p).map (Value.int .i64))) := ho
        obtain ⟨p0, p1, p2⟩ := (HVX.out.2.below HB7.out.1).below hB
        clear ho
        by_cases hlt : j < m
        · have hji : (j : Int) < m := by omega
          obtain ⟨b, o, i, b2, o2, pa, pc, zs, rfl, q2, q3, rfl, q5, q6, q7, q8⟩ := HC.out.2 j hlt
          replace q2 := cell_keep hB q2
          replace q5 := cell_keep hB q5
          have hpl := HPL.out j hj
          have q3' : (i : Int) < nf := by omega
          have hod : wr.drew.ownsRow w7.heap.size 3 1 u8 ((cs.take j).flatMap p).length (((cs.take j).flatMap p).map (Value.int .i64)) := HO.out
          obtain ⟨v', w8, hr, ho3, hg⟩ := run_append_ints wr.drew w7.heap.size u8 _ _ hod (.slice pa zs.length pc) zs ((q6.below hB).below (Below.refl _ _).drew) (by omega) hB.size 40
          have HX8 : Hid (w8.ownsRow w7.heap.size 3 1 v' ((cs.take (j + 1)).flatMap p).length (((cs.take (j + 1)).flatMap p).map (Value.int .i64)) ∧ Below w7.heap.size w7 w8) := by
            refine ⟨?_, (hB.drew).trans (below_of_grownS hg hB.size hod (Nat.le_refl _))⟩
            rw [flat_takeY cs 0 p j (by rw [← HC.out.1]; exact hlt), q8, List.length_append, List.map_append]
            exact ho3
          obtain ⟨l, hl⟩ : ∃ l, l = zs.length := ⟨_, rfl⟩
          rw [← hl] at q5 hr
          have HRr : Hid _ := hr
          clear ho3 hg q8 hpl hl q6 hod hr
          go_upto_region 18 with fail
          go_region_law (refine step_append_run rfl (.tmp 69) (.tmp 78) _ _ rfl _ _ rfl rfl _ _ HRr.out ?_)
          all_goals
            go_wp2_with fail
            go_roundw
            case rel => exact ⟨j + 1, hlt, by go_num, HX8.out.1, HX8.out.2⟩
            case measure => simp [intOf]; omega
        · have hjm : j = m := by omega
          have hoo := HO.out
          rw [hjm, List.take_of_length_le (by rw [← HC.out.1]; exact Nat.le_refl _)] at hoo
          have h600 := HPL.out m (Nat.le_refl _)
          rw [List.take_of_length_le (by rw [← HC.out.1]; exact Nat.le_refl _)] at h600
          obtain ⟨v', w8, hr, ho3, hb8⟩ := append_int wr w7.heap.size u8 (cs.flatMap p) hoo hB.size (by omega) (X : Int) 40
          have hcne : cs ≠ [] := fun q => by
            have := HC.out.1
            rw [q] at this
            exact hm0 this
          have KS : Hid _ := HSET.out w8 v' (cs.flatMap p ++ [(X : Int)]) ((HB7.out.1.trans (hB.mono HB7.out.1.size)).trans (hb8.mono (Nat.le_trans (Nat.le_refl _) HB7.out.1.size))) (isCap_of_owns ho3).1 (by
            refine inB_of fun x hx => ?_
            have := HCI.out.2.2.1 x (by
              rw [HKE.out]
              unfold callingL
              rw [if_neg hcne]
              rcases List.mem_append.1 hx with hx | hx
              · exact List.mem_cons_of_mem _ (by rw [← HPP.out]; exact hx)
              · rw [List.mem_singleton.1 hx]; exact List.mem_cons_self)
            have := HCI.out.2.2.2
            omega) (by rw [List.length_append, List.length_singleton]; omega) (fun x => by
            rw [HKE.out]
            unfold callingL
            rw [if_neg hcne, HPP.out, List.mem_cons, List.mem_append, List.mem_singleton, or_comm])
          have t1r := cell_keep hB t1
          clear hoo h600 ho3 hb8 hcne p0 p1 p2 hm0
          go_wp2_with (at_builtin; refine Lib.wpList_append_run _ rfl _ _ _ _ rfl _ _ rfl rfl _ _ hr ?_)
          refine Calls.mono KS.out ?_
          rintro e w9 ⟨v9, rfl, hi9, hb9⟩
          obtain ⟨ya, yc, rfl⟩ := isInts_form hi9
          have HR9 : Hid (IsInts w9 (.slice ya (norm (changedL P L (P.stmts.getD k default))).length yc) (norm (changedL P L (P.stmts.getD k default))) ∧ Below w.heap.size w w9) := ⟨hi9, hb9⟩
          clear hi9 hb9 KS
          go_wp2_with fail
          go_ret
          exact ⟨_, rfl, HR9.out.1, HR9.out.2⟩
  · have HKE : Hid (norm (changedL P L (P.stmts.getD k default)) = (setAt L (X : Int)).filter fun o => decide (o < (vn : Int))) := by
      show _ = _
      rw [HD.out.1 hK, ptr_set H.out.2.2.2.1 HKD.out.2.2, HVN.out]
      rfl
    obtain ⟨lb, lo, ra, rc, rfl, x0, hi, hl200⟩ := HR.out
    obtain ⟨zs, hzs⟩ : ∃ z, z = setAt L (X : Int) := ⟨_, rfl⟩
    rw [← hzs] at HKE x0 hi hl200
    obtain ⟨ra', rc', e', hcs⟩ := isInts_cells hi
    cases e'
    obtain ⟨m, hm⟩ : ∃ m, m = zs.length := ⟨_, rfl⟩
    rw [← hm] at x0 hl200 hcs
    have HC : Hid ((∀ i, i < m → ∃ b' o', ra = some ⟨b', o', none⟩ ∧ V.cell? ⟨b', o' + i, none⟩ = some (.int .i64 (zs.getD i 0))) ∧ m = zs.length) := ⟨hcs, hm⟩
    clear hcs hm hK hi hzs
    go_wp2_with fail
    clear t0
    go_loopw [8, 9] (fun u t wr => ∃ i : Nat, i ≤ m ∧ t = .int .i64 i ∧ wr.ownsRow V.heap.size 3 1 u ((zs.take i).filter fun o => decide (o < (vn : Int))).length (((zs.take i).filter fun o => decide (o < (vn : Int))).map intV) ∧ Below V.heap.size V wr) (fun _ t _ => (m - intOf t).toNat)
    case atStart => exact ⟨0, Nat.zero_le _, rfl, World.ownsRow_nil _ _ _ _, Below.refl _ _⟩
    case round =>
      obtain ⟨i, hi, rfl, ho, hB⟩ := hrel
      have HO : Hid (wr.ownsRow V.heap.size 3 1 u8 ((zs.take i).filter fun o => decide (o < (vn : Int))).length (((zs.take i).filter fun o => decide (o < (vn : Int))).map intV)) := ho
      have hlen : ((zs.take i).filter fun o => decide (o < (vn : Int))).length ≤ i := Nat.le_trans (List.length_filter_le _ _) (List.length_take_le _ _)
      have e1 := cell_keep hB t1
      have e0 := cell_keep hB x0
      clear ho
      by_cases hlt : i < m
      · have hii : (i : Int) < m := by omega
        obtain ⟨b1, o1, rfl, ec⟩ := HC.out.1 i hlt
        replace ec := cell_keep hB ec
        obtain ⟨z, hze⟩ : ∃ z, z = zs.getD i 0 := ⟨_, rfl⟩
        rw [← hze] at ec
        have HZ : Hid (z = zs.getD i 0 ∧ i < zs.length) := ⟨hze, by rw [← HC.out.2]; exact hlt⟩
        clear hze
        by_cases hzN : z < (vn : Int)
        · obtain ⟨v', w2, hr, ho3, hB2⟩ := append_int wr V.heap.size u8 _ HO.out hB.size (by omega) z 40
          have HX : Hid (w2.ownsRow V.heap.size 3 1 v' ((zs.take (i + 1)).filter fun o => decide (o < (vn : Int))).length (((zs.take (i + 1)).filter fun o => decide (o < (vn : Int))).map intV) ∧ Below V.heap.size V w2) := by
            refine ⟨?_, hB.trans hB2⟩
            rw [filter_yes _ zs i HZ.out.2 (by rw [← HZ.out.1]; exact decide_eq_true hzN), ← HZ.out.1]
            exact ho3
          clear ho3 hB2
          go_wp2_with (at_builtin; refine Lib.wpList_append_run _ rfl _ _ _ _ rfl _ _ rfl rfl _ _ hr ?_)
          go_roundw
          case rel => exact ⟨i + 1, hlt, by go_num, HX.out.1, HX.out.2⟩
          case measure => simp [intOf]; omega
        · have HX : Hid (wr.ownsRow V.heap.size 3 1 u8 ((zs.take (i + 1)).filter fun o => decide (o < (vn : Int))).length (((zs.take (i + 1)).filter fun o => decide (o < (vn : Int))).map intV)) := by
            show World.ownsRow _ _ _ _ _ _ _
            rw [filter_no _ zs i HZ.out.2 (by rw [← HZ.out.1]; exact decide_eq_false hzN)]
            exact HO.out
          go_wp2_with fail
          go_roundw
          case rel => exact ⟨i + 1, hlt, by go_num, HX.out, hB⟩
          case measure => simp [intOf]; omega
      · go_wp2_with fail
        go_ret
        have hkn : i = zs.length := by rw [← HC.out.2]; omega
        have h1 := HO.out
        rw [hkn, List.take_length, ← HKE.out] at h1
        exact ⟨_, rfl, (isCap_of_owns h1).1, bthenY HVX.out.1 hB⟩
  · have hke := HD.out.2.2 ⟨hK.2.2, hK.2.1⟩
    have HKE : Hid (changedL P L (P.stmts.getD k default) = [(X : Int)]) := hke
    obtain ⟨v', w2, hr, ho, hb2⟩ := append_int V V.heap.size (.slice none 0 0) [] (World.ownsRow_nil _ _ _ _) (Nat.le_refl _) (by simp) (X : Int) 40
    have KS : Hid _ := HSET.out w2 v' [(X : Int)] hb2 (isCap_of_owns ho).1 (by
      refine inB_of fun x hx => ?_
      rw [List.mem_singleton.1 hx]
      have := HKD.out.2.2
      have := HCI.out.2.2.2
      omega) (by simp) (fun x => by rw [hke])
    clear hK hke ho hb2
    go_wp2_with (at_builtin; refine Lib.wpList_append_run _ rfl _ _ _ _ rfl _ _ rfl rfl _ _ hr ?_)
    refine Calls.mono KS.out ?_
    rintro e w9 ⟨v9, rfl, hi9, hb9⟩
    obtain ⟨ya, yc, rfl⟩ := isInts_form hi9
    have HR9 : Hid (IsInts w9 (.slice ya (norm (changedL P L (P.stmts.getD k default))).length yc) (norm (changedL P L (P.stmts.getD k default))) ∧ Below w.heap.size w w9) := ⟨hi9, hb9⟩
    clear hi9 hb9 KS
    go_wp2_with fail
    go_ret
    exact ⟨_, rfl, HR9.out.1, HR9.out.2⟩
end Go.Proofs.YteekjigaicmohaaGreatDoor

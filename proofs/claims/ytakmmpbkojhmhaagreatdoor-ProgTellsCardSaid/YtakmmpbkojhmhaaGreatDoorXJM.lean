/-
  SameTexts and SameProgram at one program twice, by contracts.
-/
import Derived.Test.YtakmmpbkojhmhaaGreatDoorPL
import Derived.Test.YtakmmpbkojhmhaaGreatDoorPI
namespace Go.Proofs.YtakmmpbkojhmhaaGreatDoor
open Go.RowKit Go.Extern.Stop Go.Stop Go.Extern

set_option maxHeartbeats 2000000 in
theorem sameTexts_true (ss : List Bs) (u v : Value) (w : World) (hm : ss.length ≤ 1000000) (h1 : IsStrs w u ss) (h2 : IsStrs w v ss) :
    Calls Tryz.prog 81 #[u, v] w fun e w' => e = .returned (.bool true) ∧ Below w.heap.size w w' := by
  obtain ⟨a1, c1, rfl, -, hc1⟩ := h1
  obtain ⟨a2, c2, rfl, -, hc2⟩ := h2
  have H1 : Hid (∀ j, j < ss.length → ∃ b o, a1 = some ⟨b, o, none⟩ ∧ w.cell? ⟨b, o + j, none⟩ = some (.string (S (ss.getD j [])))) := hc1
  have H2 : Hid (∀ j, j < ss.length → ∃ b o, a2 = some ⟨b, o, none⟩ ∧ w.cell? ⟨b, o + j, none⟩ = some (.string (S (ss.getD j [])))) := hc2
  clear hc1 hc2
  generalize hn : ss.length = n at *
  have HN : Hid (ss.length = n) := hn
  clear hn
  go_enter Tryz.func81, Tryz.ntmps81
  go_wp2
  go_loopw [5] (fun t wr => ∃ k : Nat, k ≤ n ∧ t = .int .i64 k ∧ Below w.heap.size w wr) (fun t _ => (n - intOf t).toNat)
  case atStart => exact ⟨0, Nat.zero_le _, rfl, Below.refl _ _⟩
  case round =>
    obtain ⟨k, hk, rfl, hB⟩ := hrel
    by_cases hlt : k < n
    · obtain ⟨b1, o1, rfl, e1'⟩ := H1.out k hlt
      obtain ⟨b2, o2, rfl, e2'⟩ := H2.out k hlt
      have e1 := cell_keep hB e1'
      have e2 := cell_keep hB e2'
      obtain ⟨z, hz⟩ : ∃ z, z = S (ss.getD k []) := ⟨_, rfl⟩
      rw [← hz] at e1 e2
      clear hz e1' e2'
      go_wp2
      go_quiet (fail)
      go_wp2
      go_roundw
      case rel => exact ⟨k + 1, hlt, by go_num, below_drewN hB _⟩
      case measure => simp [intOf]; omega
    · go_wp2
      go_ret
      exact ⟨rfl, hB⟩

set_option maxRecDepth 100000 in
set_option maxHeartbeats 8000000 in
theorem sameProgram_true (P : ProgD) (u1 u2 u3 v1 v2 v3 : Value) (w : World) (hs : SmallP P) (h1 : IsProg w u1 u2 u3 P) (h2 : IsProg w v1 v2 v3 P) :
    Calls Tryz.prog 40 #[.agg #[u1, u2, u3], .agg #[v1, v2, v3]] w fun e w' => e = .returned (.bool true) ∧ Below w.heap.size w w' := by
  have G1 : Hid (IsProg w u1 u2 u3 P) := h1
  have G2 : Hid (IsProg w v1 v2 v3 P) := h2
  have HS : Hid (SmallP P) := hs
  obtain ⟨⟨a1, c1, rfl, -, -⟩, ⟨a2, c2, rfl, -, -⟩, ⟨a3, c3, rfl, -, -⟩⟩ := h1
  obtain ⟨⟨b1, d1, rfl, -, -⟩, ⟨b2, d2, rfl, -, -⟩, ⟨b3, d3, rfl, -, -⟩⟩ := h2
  have hs1 := hs.1
  have hs2 := hs.2.1
  have hs3 := hs.2.2.1
  clear hs
  generalize hn1 : P.vars.length = n1 at *
  generalize hn2 : P.funs.length = n2 at *
  generalize hn3 : P.stmts.length = n3 at *
  have HN : Hid (P.vars.length = n1 ∧ P.funs.length = n2 ∧ P.stmts.length = n3) := ⟨hn1, hn2, hn3⟩
  clear hn1 hn2 hn3
  have KT : Hid (∀ wx, Below w.heap.size w wx → Calls Tryz.prog 81 #[.slice a1 n1 c1, .slice b1 n1 d1] wx fun e w' => e = .returned (.bool true) ∧ Below wx.heap.size wx w') := fun wx hb => sameTexts_true P.vars _ _ wx (by rw [HN.out.1]; omega) (G1.out.below hb).vars (G2.out.below hb).vars
  have hb2 : ∀ o o', Below w.heap.size w ((w.alloc o).alloc o') := fun o o' => (below1 w o).alloc (by simp) o'
  go_enter Tryz.func40, Tryz.ntmps40
  go_wp2_with fail
  refine (KT.out _ (hb2 _ _)).mono ?_
  rintro e w1 ⟨rfl, hB1⟩
  have hBw : Below w.heap.size w w1 := (hb2 _ _).trans (hB1.mono (hb2 _ _).size)
  have X1 : Hid (Box3 w1 w.heap.size (.slice a1 n1 c1) (.slice a2 n2 c2) (.slice a3 n3 c3)) := (((box3_new w _ _ _ 43).below (below1 _ _))).below hB1
  have X2 : Hid (Box3 w1 (w.heap.size + 1) (.slice b1 n1 d1) (.slice b2 n2 d2) (.slice b3 n3 d3)) := by
    have := (box3_new (w.alloc (.cells #[.slice a1 n1 c1, .slice a2 n2 c2, .slice a3 n3 c3] 43)) (.slice b1 n1 d1) (.slice b2 n2 d2) (.slice b3 n3 d3) 43).below hB1
    rw [World.size_alloc] at this
    exact this
  have x1 := X1.out.2.1
  have x2 := X1.out.2.2
  have y1 := X2.out.2.1
  have y2 := X2.out.2.2
  clear hB1 KT hb2
  go_wp2_with fail
  clear x1 x2 y1 y2
  go_loopw [5] (fun t wr => ∃ k : Nat, k ≤ n2 ∧ t = .int .i64 k ∧ Below w1.heap.size w1 wr) (fun t _ => (n2 - intOf t).toNat)
  case atStart => exact ⟨0, Nat.zero_le _, rfl, Below.refl _ _⟩
  case round =>
    obtain ⟨k, hk, rfl, hB⟩ := hrel
    obtain ⟨p0, p1, p2⟩ := X1.out.below hB
    obtain ⟨q0, q1, q2⟩ := X2.out.below hB
    by_cases hlt : k < n2
    · have hl : k < P.funs.length := by rw [HN.out.2.1]; exact hlt
      have hmem : P.funs.getD k default ∈ P.funs := by simp [List.getD, hl]
      have hBx : Below w.heap.size w wr := hBw.trans (hB.mono hBw.size)
      obtain ⟨_, _, hv2, _, hst2⟩ := (G1.out.below hBx).funs
      obtain ⟨g, o, ha2, e0⟩ := hst2 k hl
      obtain rfl : a2 = some ⟨g, o, none⟩ := by rw [← ha2]; exact (Value.slice.inj hv2).1
      obtain ⟨_, _, hv2', _, hst2'⟩ := (G2.out.below hBx).funs
      obtain ⟨g', o', ha2', e0'⟩ := hst2' k hl
      obtain rfl : b2 = some ⟨g', o', none⟩ := by rw [← ha2']; exact (Value.slice.inj hv2').1
      obtain ⟨z, hze⟩ : ∃ z, z = P.funs.getD k default := ⟨_, rfl⟩
      rw [← hze] at e0 e0' hmem
      obtain ⟨pv, r1, r2, hi, r3⟩ := e0
      obtain ⟨pv', r1', r2', hi', r3'⟩ := e0'
      have hz := HS.out.2.2.2.1 z hmem
      have KI : ∀ d os, Calls Tryz.prog 17 #[pv, pv'] (Go.Sort.grow (redrawn wr d) os) fun e w'' => e = .returned (.bool true) ∧ ∃ p : Regrown, w'' = Go.Sort.grow (redrawn wr p.d) p.os := fun d os =>
        Calls.regrown_of (sameInts_true z.params pv pv' _ (by omega) (hi.below (below_regrown wr d os)).1 (hi'.below (below_regrown wr d os)).1)
      obtain ⟨nm, hnm⟩ : ∃ nm, nm = S z.name := ⟨_, rfl⟩
      rw [← hnm] at r1 r1'
      obtain ⟨-, pa, pc, rfl, -⟩ := hi
      obtain ⟨-, pa', pc', rfl, -⟩ := hi'
      have R1 := cell_regrown r1
      have R2 := cell_regrown r2
      have R3 := cell_regrown r3
      have R1' := cell_regrown r1'
      have R2' := cell_regrown r2'
      have R3' := cell_regrown r3'
      have P1 := cell_regrown p1
      have Q1 := cell_regrown q1
      obtain ⟨wq, hwq⟩ : ∃ wq, wq = wr := ⟨_, rfl⟩
      clear hv2 hst2 ha2 hv2' hst2' ha2' hze hmem hl hnm hz p0 p2 q0 q2 hwq wq
      go_wp2_with fail
      refine wp_region_quiet_below (by kernel_rfl) (by kernel_rfl) ?_
      repeat (quiet_step (first | exact KI _ _))
      refine wpQuiet_nil ?_
      intro _ hw'
      obtain ⟨⟨dq, osq⟩, hw''⟩ := hw'
      subst hw''
      have HBQ : Hid (Below w1.heap.size w1 (Go.Sort.grow (redrawn wr dq) osq)) := hB.trans ((below_regrown wr dq osq).mono hB.size)
      clear KI R1 R2 R3 R1' R2' R3' P1 Q1
      go_wp2_with fail
      go_roundw
      case rel => exact ⟨k + 1, hlt, by go_num, HBQ.out⟩
      case measure => simp [intOf]; omega
    · obtain ⟨wf, hwf⟩ : ∃ wf, wf = wr := ⟨_, rfl⟩
      rw [← hwf] at hB p1 p2 q1 q2 ⊢
      have Y1 : Hid (Box3 wf w.heap.size (.slice a1 n1 c1) (.slice a2 n2 c2) (.slice a3 n3 c3)) := X1.out.below hB
      have Y2 : Hid (Box3 wf (w.heap.size + 1) (.slice b1 n1 d1) (.slice b2 n2 d2) (.slice b3 n3 d3)) := X2.out.below hB
      have hBf : Below w.heap.size w wf := hBw.trans (hB.mono hBw.size)
      clear hwf p0 q0 q1 q2
      go_wp2_with fail
      clear p1 p2
      go_loopw [6] (fun t wr => ∃ k : Nat, k ≤ n3 ∧ t = .int .i64 k ∧ Below wf.heap.size wf wr) (fun t _ => (n3 - intOf t).toNat)
      case atStart => exact ⟨0, Nat.zero_le _, rfl, Below.refl _ _⟩
      case round =>
        obtain ⟨k, hk, rfl, hB⟩ := hrel
        obtain ⟨p0, p1, p2⟩ := Y1.out.below hB
        obtain ⟨q0, q1, q2⟩ := Y2.out.below hB
        by_cases hlt : k < n3
        · have hl : k < P.stmts.length := by rw [HN.out.2.2]; exact hlt
          have hmem : P.stmts.getD k default ∈ P.stmts := by simp [List.getD, hl]
          have hBx : Below w.heap.size w wr := hBf.trans (hB.mono hBf.size)
          obtain ⟨_, _, hv2, _, hst2⟩ := (G1.out.below hBx).stmts
          obtain ⟨g, o, ha2, e0⟩ := hst2 k hl
          obtain rfl : a3 = some ⟨g, o, none⟩ := by rw [← ha2]; exact (Value.slice.inj hv2).1
          obtain ⟨_, _, hv2', _, hst2'⟩ := (G2.out.below hBx).stmts
          obtain ⟨g', o', ha2', e0'⟩ := hst2' k hl
          obtain rfl : b3 = some ⟨g', o', none⟩ := by rw [← ha2']; exact (Value.slice.inj hv2').1
          obtain ⟨z, hze⟩ : ∃ z, z = P.stmts.getD k default := ⟨_, rfl⟩
          rw [← hze] at e0 e0' hmem
          obtain ⟨pv, r1, r2, r3, r4, hi⟩ := e0
          obtain ⟨pv', r1', r2', r3', r4', hi'⟩ := e0'
          have hz := HS.out.2.2.2.2 z hmem
          have HI : Hid (∀ wx, Below wr.heap.size wr wx → Calls Tryz.prog 17 #[pv, pv'] wx fun e w' => e = .returned (.bool true) ∧ Below wx.heap.size wx w') := fun wx hb => sameInts_true z.args pv pv' wx (by omega) (hi.below hb).1 (hi'.below hb).1
          obtain ⟨nm, hnm⟩ : ∃ nm, nm = S z.kind := ⟨_, rfl⟩
          rw [← hnm] at r1 r1'
          obtain ⟨-, pa, pc, rfl, -⟩ := hi
          obtain ⟨-, pa', pc', rfl, -⟩ := hi'
          have s1 := fun o => cell_keep (below1 wr o) r1'
          have s2 := fun o => cell_keep (below1 wr o) r2'
          have s3 := fun o => cell_keep (below1 wr o) r3'
          have s4 := fun o => cell_keep (below1 wr o) r4'
          have t2 := fun o => cell_keep (below1 wr o) q2
          have hbb : ∀ o o', Below wr.heap.size wr ((wr.alloc o).alloc o') := fun o o' => (below1 wr o).alloc (by simp) o'
          clear hv2 hst2 ha2 hv2' hst2' ha2' hze hmem hl hnm hz p0 p1 q0 q1 r1' r2' r3' r4'
          go_wp2_with fail
          refine (HI.out _ (hbb _ _)).mono ?_
          rintro e w3 ⟨rfl, hB3⟩
          have HBQ : Hid (Below wf.heap.size wf w3) := hB.trans (((hbb _ _).trans (hB3.mono (hbb _ _).size)).mono hB.size)
          clear hB3 hbb s1 s2 s3 s4 t2 r1 r2 r3 r4 p2 q2
          go_wp2_with fail
          go_roundw
          case rel => exact ⟨k + 1, hlt, by go_num, HBQ.out⟩
          case measure => simp [intOf]; omega
        · go_wp2_with fail
          go_ret
          exact ⟨rfl, hBf.trans (hB.mono hBf.size)⟩
end Go.Proofs.YtakmmpbkojhmhaaGreatDoor

/-
  LargeProgram, by a contract: what it calls not large is small.
-/
namespace Go.Proofs.YtakmmpbkojhmhaaGreatDoor
open Go.RowKit Go.Extern.Stop Go.Stop Go.Extern

set_option maxRecDepth 100000 in
set_option maxHeartbeats 8000000 in
theorem large_any (P : ProgD) (v1 v2 v3 : Value) (w : World) (h : IsProg w v1 v2 v3 P) :
    Calls Tryz.prog 24 #[.agg #[v1, v2, v3], .int .i64 30] w fun e w' => ∃ r : Int, e = .returned (.int .i64 r) ∧ (r = 1 ∨ (r = 0 ∧ SmallP P ∧ SmallN P)) ∧ Below w.heap.size w w' := by
  have H : Hid (IsProg w v1 v2 v3 P) := h
  obtain ⟨⟨a1, c1, rfl, -, -⟩, ⟨a2, c2, rfl, -, -⟩, ⟨a3, c3, rfl, -, -⟩⟩ := h
  generalize hn1 : P.vars.length = n1 at *
  generalize hn2 : P.funs.length = n2 at *
  generalize hn3 : P.stmts.length = n3 at *
  have HN : Hid (P.vars.length = n1 ∧ P.funs.length = n2 ∧ P.stmts.length = n3) := ⟨hn1, hn2, hn3⟩
  clear hn1 hn2 hn3
  go_enter Tryz.func24, Tryz.ntmps24
  go_upto_region 1 with fail
  go_cut [36] (fun s wx => ∃ Bd, s = .bool Bd ∧ (Bd = false → n1 ≤ 41 ∧ n2 ≤ 8 ∧ n3 ≤ 81) ∧ wx = w.alloc (.cells #[.slice a1 n1 c1, .slice a2 n2 c2, .slice a3 n3 c3] 43))
  case first =>
    by_cases g1 : 15 < (n1 : Int)
    · by_cases g1' : (n1 : Int) = 41
      · have e41 : ((n1 : Int) != 41) = false := by rw [g1']; rfl
        by_cases g2 : 8 < (n2 : Int)
        · go_wp2_with fail
          go_meet
          exact ⟨true, rfl, (fun q => by cases q), rfl⟩
        · by_cases g3 : 30 < (n3 : Int)
          · by_cases g3' : (n3 : Int) = 81
            · have e81 : ((n3 : Int) != 81) = false := by rw [g3']; rfl
              go_wp2_with fail
              go_meet
              exact ⟨false, rfl, (fun _ => by omega), rfl⟩
            · have e81 : ((n3 : Int) != 81) = true := by simp [g3']
              go_wp2_with fail
              go_meet
              exact ⟨true, rfl, (fun q => by cases q), rfl⟩
          · go_wp2_with fail
            go_meet
            exact ⟨false, rfl, (fun _ => by omega), rfl⟩
      · have e41 : ((n1 : Int) != 41) = true := by simp [g1']
        go_wp2_with fail
        go_meet
        exact ⟨true, rfl, (fun q => by cases q), rfl⟩
    · by_cases g2 : 8 < (n2 : Int)
      · go_wp2_with fail
        go_meet
        exact ⟨true, rfl, (fun q => by cases q), rfl⟩
      · by_cases g3 : 30 < (n3 : Int)
        · by_cases g3' : (n3 : Int) = 81
          · have e81 : ((n3 : Int) != 81) = false := by rw [g3']; rfl
            go_wp2_with fail
            go_meet
            exact ⟨false, rfl, (fun _ => by omega), rfl⟩
          · have e81 : ((n3 : Int) != 81) = true := by simp [g3']
            go_wp2_with fail
            go_meet
            exact ⟨true, rfl, (fun q => by cases q), rfl⟩
        · go_wp2_with fail
          go_meet
          exact ⟨false, rfl, (fun _ => by omega), rfl⟩
  case rest =>
  obtain ⟨Bd, rfl, hsm, hwc⟩ := hcut
  have hB : Below w.heap.size w wc := by rw [hwc]; exact below1 w _
  have HX : Hid (Box3 wc w.heap.size (.slice a1 n1 c1) (.slice a2 n2 c2) (.slice a3 n3 c3)) := by
    show Box3 wc w.heap.size (.slice a1 n1 c1) (.slice a2 n2 c2) (.slice a3 n3 c3)
    rw [hwc]; exact box3_new w _ _ _ _
  clear hwc
  cases Bd with
  | true =>
    clear hsm
    go_wp2_with fail
    go_ret
    exact ⟨1, rfl, Or.inl rfl, hB⟩
  | false =>
    have hsz := hsm rfl
    obtain ⟨z1, z2, z3⟩ := hsz
    obtain ⟨x0, x1, x2⟩ := HX.out
    have HP : Hid (IsProg wc (.slice a1 n1 c1) (.slice a2 n2 c2) (.slice a3 n3 c3) P) := H.out.below hB
    clear hsm
    go_wp2_with fail
    go_loopw [5] (fun t wr => ∃ k : Nat, k ≤ n1 ∧ t = .int .i64 k ∧ wr = wc ∧ ∀ j, j < k → (P.vars.getD j []).length ≤ 20) (fun t _ => (n1 - intOf t).toNat)
    case atStart => exact ⟨0, Nat.zero_le _, rfl, rfl, fun j hj => absurd hj (Nat.not_lt_zero _)⟩
    case round =>
      obtain ⟨k, hk, rfl, hwr, hallv⟩ := hrel
      obtain rfl := hwr.symm
      have HAV : Hid (∀ j, j < k → (P.vars.getD j []).length ≤ 20) := hallv
      clear hwr hallv
      by_cases hlt : k < n1
      · obtain ⟨_, _, hv1, _, hst1⟩ := HP.out.vars
        obtain ⟨b, o, ha1, e0⟩ := hst1 k (by rw [HN.out.1]; exact hlt)
        obtain rfl : a1 = some ⟨b, o, none⟩ := by rw [← ha1]; exact (Value.slice.inj hv1).1
        obtain ⟨zb, hzb⟩ : ∃ zb, zb = S (P.vars.getD k []) := ⟨_, rfl⟩
        rw [← hzb] at e0
        have HZB : Hid (zb.size = (P.vars.getD k []).length) := by show zb.size = _; rw [hzb, S_size]
        clear hv1 hst1 ha1 hzb
        by_cases g : 20 < (zb.size : Int)
        · go_wp2_with fail
          go_ret
          exact ⟨1, rfl, Or.inl rfl, hB⟩
        · go_wp2_with fail
          go_roundw
          case rel =>
            refine ⟨k + 1, hlt, by go_num, trivial, fun j hj => ?_⟩
            rcases Nat.lt_succ_iff_lt_or_eq.1 hj with q | q
            · exact HAV.out j q
            · rw [q, ← HZB.out]; omega
          case measure => simp [intOf]; omega
      · have HVN : Hid (∀ v ∈ P.vars, v.length ≤ 1000000) := fun v hv => by
          obtain ⟨j, hj, rfl⟩ := List.mem_iff_getElem.1 hv
          have h8 := HAV.out j (by rw [HN.out.1] at hj; omega)
          have : P.vars.getD j [] = P.vars[j] := by simp [List.getD, hj]
          rw [this] at h8; omega
        clear HAV
        go_wp2_with fail
        go_loopw [6] (fun t wr => ∃ k : Nat, k ≤ n2 ∧ t = .int .i64 k ∧ wr = wc ∧ ∀ j, j < k → (P.funs.getD j default).params.length ≤ 8 ∧ (P.funs.getD j default).name.length ≤ 20) (fun t _ => (n2 - intOf t).toNat)
        case atStart => exact ⟨0, Nat.zero_le _, rfl, rfl, fun j hj => absurd hj (Nat.not_lt_zero _)⟩
        case round =>
          obtain ⟨k, hk, rfl, hwr, hall⟩ := hrel
          obtain rfl := hwr.symm
          have HA : Hid (∀ j, j < k → (P.funs.getD j default).params.length ≤ 8 ∧ (P.funs.getD j default).name.length ≤ 20) := hall
          clear hwr hall
          by_cases hlt : k < n2
          · obtain ⟨_, _, hv2, _, hst2⟩ := HP.out.funs
            obtain ⟨b, o, ha2, e0⟩ := hst2 k (by rw [HN.out.2.1]; exact hlt)
            obtain rfl : a2 = some ⟨b, o, none⟩ := by rw [← ha2]; exact (Value.slice.inj hv2).1
            obtain ⟨z, hze⟩ : ∃ z, z = P.funs.getD k default := ⟨_, rfl⟩
            have HZ : Hid (z = P.funs.getD k default) := hze
            rw [← hze] at e0
            obtain ⟨pv, r1, r2, ⟨-, pa, pc, rfl, -⟩, r3⟩ := e0
            obtain ⟨zb, hzb⟩ : ∃ zb, zb = S z.name := ⟨_, rfl⟩
            rw [← hzb] at r1
            have HZB : Hid (zb.size = z.name.length) := by show zb.size = _; rw [hzb, S_size]
            obtain ⟨m, hm⟩ : ∃ m, m = z.params.length := ⟨_, rfl⟩
            have HM : Hid (m = z.params.length) := hm
            rw [← hm] at r2
            clear hv2 hst2 ha2 hze hzb hm r3
            by_cases g : 20 < (zb.size : Int)
            · go_wp2_with fail
              go_ret
              exact ⟨1, rfl, Or.inl rfl, hB⟩
            · by_cases g8 : 8 < (m : Int)
              · go_wp2_with fail
                go_ret
                exact ⟨1, rfl, Or.inl rfl, hB⟩
              · go_wp2_with fail
                go_roundw
                case rel =>
                  refine ⟨k + 1, hlt, by go_num, trivial, fun j hj => ?_⟩
                  rcases Nat.lt_succ_iff_lt_or_eq.1 hj with q | q
                  · exact HA.out j q
                  · rw [q, ← HZ.out, ← HM.out, ← HZB.out]; omega
                case measure => simp [intOf]; omega
          · have HFN : Hid (∀ f ∈ P.funs, f.name.length ≤ 1000000) := fun f hf => by
              obtain ⟨j, hj, rfl⟩ := List.mem_iff_getElem.1 hf
              have h8 := HA.out j (by rw [HN.out.2.1] at hj; omega)
              have : P.funs.getD j default = P.funs[j] := by simp [List.getD, hj]
              rw [this] at h8; omega
            have HF : Hid (∀ f ∈ P.funs, f.params.length ≤ 100000) := fun f hf => by
              obtain ⟨j, hj, rfl⟩ := List.mem_iff_getElem.1 hf
              have h8 := HA.out j (by rw [HN.out.2.1] at hj; omega)
              have : P.funs.getD j default = P.funs[j] := by simp [List.getD, hj]
              rw [this] at h8; omega
            clear HA
            go_wp2_with fail
            go_loopw [7] (fun t wr => ∃ k : Nat, k ≤ n3 ∧ t = .int .i64 k ∧ wr = wc ∧ ∀ j, j < k → (P.stmts.getD j default).args.length ≤ 8) (fun t _ => (n3 - intOf t).toNat)
            case atStart => exact ⟨0, Nat.zero_le _, rfl, rfl, fun j hj => absurd hj (Nat.not_lt_zero _)⟩
            case round =>
              obtain ⟨k, hk, rfl, hwr, hall⟩ := hrel
              obtain rfl := hwr.symm
              have HA : Hid (∀ j, j < k → (P.stmts.getD j default).args.length ≤ 8) := hall
              clear hwr hall
              by_cases hlt : k < n3
              · obtain ⟨_, _, hv3, _, hst3⟩ := HP.out.stmts
                obtain ⟨b, o, ha3, e0⟩ := hst3 k (by rw [HN.out.2.2]; exact hlt)
                obtain rfl : a3 = some ⟨b, o, none⟩ := by rw [← ha3]; exact (Value.slice.inj hv3).1
                obtain ⟨z, hze⟩ : ∃ z, z = P.stmts.getD k default := ⟨_, rfl⟩
                have HZ : Hid (z = P.stmts.getD k default) := hze
                rw [← hze] at e0
                obtain ⟨pv, r1, r2, r3, r4, ⟨-, pa, pc, rfl, -⟩⟩ := e0
                obtain ⟨zb, hzb⟩ : ∃ zb, zb = S z.kind := ⟨_, rfl⟩
                rw [← hzb] at r1
                obtain ⟨m, hm⟩ : ∃ m, m = z.args.length := ⟨_, rfl⟩
                have HM : Hid (m = z.args.length) := hm
                rw [← hm] at r4
                clear hv3 hst3 ha3 hze hzb hm r2 r3
                by_cases g : 20 < (zb.size : Int)
                · go_wp2_with fail
                  go_ret
                  exact ⟨1, rfl, Or.inl rfl, hB⟩
                · by_cases g8 : 8 < (m : Int)
                  · go_wp2_with fail
                    go_ret
                    exact ⟨1, rfl, Or.inl rfl, hB⟩
                  · go_wp2_with fail
                    go_roundw
                    case rel =>
                      refine ⟨k + 1, hlt, by go_num, trivial, fun j hj => ?_⟩
                      rcases Nat.lt_succ_iff_lt_or_eq.1 hj with q | q
                      · exact HA.out j q
                      · rw [q, ← HZ.out, ← HM.out]; omega
                    case measure => simp [intOf]; omega
              · have HT : Hid (SmallP P) := by
                  refine ⟨by rw [HN.out.1]; omega, by rw [HN.out.2.1]; omega, by rw [HN.out.2.2]; omega, HF.out, fun s hs => ?_⟩
                  obtain ⟨j, hj, rfl⟩ := List.mem_iff_getElem.1 hs
                  have h8 := HA.out j (by rw [HN.out.2.2] at hj; omega)
                  have : P.stmts.getD j default = P.stmts[j] := by simp [List.getD, hj]
                  rw [this] at h8; omega
                clear HA
                go_wp2_with fail
                go_ret
                exact ⟨0, rfl, Or.inr ⟨rfl, HT.out, HVN.out, HFN.out⟩, hB⟩
end Go.Proofs.YtakmmpbkojhmhaaGreatDoor

/-
  Package prog: checkStmt, by a contract.
-/
import Derived.Test.YtglonlpfnllocaaGreatDoorXEM
import Derived.Deep.DeepCutAuto
import Derived.Deep.RegionWith
namespace Go.Proofs.YtglonlpfnllocaaGreatDoor
open Go.RowKit Go.Extern.Stop Go.Stop Go.Extern

/-- below's function, by where its number lies. -/
abbrev belowF (nb : Nat) : Value := .func (Fn.func 99) #[] #[.pointer (some ⟨nb, 0, none⟩)]
/-- checkStmt's own function: it is always so. -/
theorem cs1 (k : Int) (w : World) : Calls Tryz.prog 78 #[.int .i64 k] w fun e w' => e = .returned (.bool true) ∧ w' = w := by
  go_enter Tryz.func78, Tryz.ntmps78
  go_wp2
  go_ret
  exact ⟨rfl, rfl⟩

/-- What checkStmt's first lines leave: two functions, and the two boxes. -/
def Laid1 (w wx : World) (n1 n2 : Nat) (kb : ByteArray) (x y : Int) (av : Value) (s5 s6 : Value) : Prop :=
  ∃ vb fb, s5 = belowF vb ∧ s6 = belowF fb ∧ wx.cell? ⟨vb, 0, none⟩ = some (.int .i64 (n1 : Int)) ∧ wx.cell? ⟨fb, 0, none⟩ = some (.int .i64 (n2 : Int)) ∧ Below w.heap.size w wx ∧
    wx.cell? ⟨w.heap.size + 1, 0, none⟩ = some (.string kb) ∧ wx.cell? ⟨w.heap.size + 1, 1, none⟩ = some (.int .i64 x) ∧ wx.cell? ⟨w.heap.size + 1, 2, none⟩ = some (.int .i64 y) ∧ wx.cell? ⟨w.heap.size + 1, 3, none⟩ = some av
theorem below4 (w : World) (o1 o2 o3 o4 : Obj) : Below w.heap.size w ((((w.alloc o1).alloc o2).alloc o3).alloc o4) :=
  ((((Below.refl _ w).alloc (Nat.le_refl _) _).alloc (by simp) _).alloc (by simp; omega) _).alloc (by simp; omega) _
theorem laid1_mk (w : World) (o1 : Obj) (n1 n2 : Nat) (kb : ByteArray) (x y : Int) (av : Value) : Laid1 w ((((w.alloc o1).alloc (.cells #[.string kb, .int .i64 x, .int .i64 y, av] 45)).alloc (.cells #[.int .i64 (n1 : Int)] 3)).alloc (.cells #[.int .i64 (n2 : Int)] 3)).drew n1 n2 kb x y av (belowF (w.heap.size + 1 + 1)) (belowF (w.heap.size + 1 + 1 + 1)) := by
  obtain ⟨W, hW⟩ : ∃ W, W = (((w.alloc o1).alloc (.cells #[.string kb, .int .i64 x, .int .i64 y, av] 45)).alloc (.cells #[.int .i64 (n1 : Int)] 3)).alloc (.cells #[.int .i64 (n2 : Int)] 3) := ⟨_, rfl⟩
  rw [← hW]
  refine ⟨_, _, rfl, rfl, ?_, ?_, (by rw [hW]; exact (below4 w _ _ _ _).drew), ?_, ?_, ?_, ?_⟩
  · show W.cell? _ = _
    rw [hW]; simp [go_sem]
  · show W.cell? _ = _
    rw [hW]; simp [go_sem]
  · show W.cell? _ = _
    rw [hW]; simp [go_sem]
  · show W.cell? _ = _
    rw [hW]; simp [go_sem]
  · show W.cell? _ = _
    rw [hW]; simp [go_sem]
  · show W.cell? _ = _
    rw [hW]; simp [go_sem]
theorem sE_Addr (P : ProgD) (x y : Int) (args : List Int) : stmtE P ⟨kAddr, x, y, args⟩ = if (!varB P x || !varB P y || !args.all (varB P)) = true then some 1 else if (!args.isEmpty || false) = true then some 2 else none := rfl
theorem sE_Copy (P : ProgD) (x y : Int) (args : List Int) : stmtE P ⟨kCopy, x, y, args⟩ = if (!varB P x || !varB P y || !args.all (varB P)) = true then some 1 else if (!args.isEmpty || false) = true then some 2 else none := rfl
theorem sE_Load (P : ProgD) (x y : Int) (args : List Int) : stmtE P ⟨kLoad, x, y, args⟩ = if (!varB P x || !varB P y || !args.all (varB P)) = true then some 1 else if (!args.isEmpty || false) = true then some 2 else none := rfl
theorem sE_Store (P : ProgD) (x y : Int) (args : List Int) : stmtE P ⟨kStore, x, y, args⟩ = if (!varB P x || !varB P y || !args.all (varB P)) = true then some 1 else if (!args.isEmpty || false) = true then some 2 else none := rfl
theorem sE_Call (P : ProgD) (x y : Int) (args : List Int) : stmtE P ⟨kCall, x, y, args⟩ = if (!varB P x || !varB P y || !args.all (varB P)) = true then some 1 else if decide (3 < args.length) = true then some 8 else none := rfl
theorem sE_Fun (P : ProgD) (x y : Int) (args : List Int) : stmtE P ⟨kFun, x, y, args⟩ = if (!varB P x || !funB P y || !args.all (varB P)) = true then some 1 else if (!args.isEmpty || false) = true then some 2 else none := rfl
theorem sE_New (P : ProgD) (x y : Int) (args : List Int) : stmtE P ⟨kNew, x, y, args⟩ = if (!varB P x || !true || !args.all (varB P)) = true then some 1 else if (!args.isEmpty || !(y == 0)) = true then some 2 else none := rfl
theorem sE_none (P : ProgD) (k : Bs) (x y : Int) (args : List Int) (h : kinds.contains k = false) : stmtE P ⟨k, x, y, args⟩ = some 3 := by
  unfold stmtE
  rw [if_pos (by rw [h]; rfl)]

set_option maxHeartbeats 8000000 in
theorem checkStmt_any (a : Nat → Addr) (P : ProgD) (s : StmtD) (v1 v2 v3 av : Value) (w : World) (hs2 : s.args.length ≤ 100000) (h : IsProg w v1 v2 v3 P) (ha : IsCap w av s.args) (hE : Errs5 w a) :
    Calls Tryz.prog 37 #[.agg #[v1, v2, v3], .agg #[.string (S s.kind), .int .i64 s.x, .int .i64 s.y, av]] w fun e w' => e = .returned (errV a (stmtE P s)) ∧ Below w.heap.size w w' := by
  obtain ⟨⟨a1, c1, rfl, -, -⟩, ⟨a2, c2, rfl, -, -⟩, ⟨a3, c3, rfl, -, -⟩⟩ := h
  obtain ⟨k, x, y, args⟩ := s
  have HA : Hid (IsCap w av args) := ha
  have HE : Hid (Errs5 w a) := hE
  obtain ⟨-, av1, av2, rfl, -⟩ := ha
  have hs2' : args.length ≤ 100000 := hs2
  obtain ⟨kb, hkb⟩ : ∃ kb, kb = S k := ⟨_, rfl⟩
  have HKB : Hid (kb = S k) := hkb
  show Calls Tryz.prog 37 #[.agg #[.slice a1 P.vars.length c1, .slice a2 P.funs.length c2, .slice a3 P.stmts.length c3], .agg #[.string (S k), .int .i64 x, .int .i64 y, .slice av1 args.length av2]] w fun e w' => e = .returned (errV a (stmtE P ⟨k, x, y, args⟩)) ∧ Below w.heap.size w w'
  rw [← hkb]
  clear hkb hE hs2
  obtain ⟨E, hEe⟩ : ∃ E, E = stmtE P ⟨k, x, y, args⟩ := ⟨_, rfl⟩
  rw [← hEe]
  have QE : Hid (E = stmtE P ⟨k, x, y, args⟩) := hEe
  clear hEe
  generalize hn : args.length = n at *
  have HN : Hid (args.length = n) := hn
  clear hn
  go_enter Tryz.func37, Tryz.ntmps37
  go_upto_region 1 with fail
  go_cut [5, 6] (fun s5 s6 wx => Laid1 w wx P.vars.length P.funs.length kb x y (.slice av1 n av2) s5 s6)
  case first =>
    go_region_with (go_at_call 71; refine (below_any _ _).mono ?_; rintro e w' ⟨rfl, rfl⟩)
    all_goals (go_wp2_with fail; go_meet)
    all_goals exact laid1_mk w _ _ _ _ _ _ _
  case rest =>
  obtain ⟨vb, fb, rfl, rfl, c1', c2', hBx, k0, k1, k2, k3⟩ := hcut
  have HV : Hid (∀ k D, D = varB P k → Calls Tryz.prog 99 #[.int .i64 k, .pointer (some ⟨vb, 0, none⟩)] wc fun e w' => e = .returned (.bool D) ∧ w' = wc) := fun k D hD => by rw [hD]; exact below1_any _ k vb wc c1'
  have HF : Hid (∀ k D, D = funB P k → Calls Tryz.prog 99 #[.int .i64 k, .pointer (some ⟨fb, 0, none⟩)] wc fun e w' => e = .returned (.bool D) ∧ w' = wc) := fun k D hD => by rw [hD]; exact below1_any _ k fb wc c2'
  have HL : Hid (∀ D, D = args.all (varB P) → Calls Tryz.prog 75 #[.slice av1 n av2, .func (Fn.func 99) #[] #[.pointer (some ⟨vb, 0, none⟩)]] wc fun e w' => e = .returned (.bool D) ∧ Below wc.heap.size wc w') := fun D hD => by rw [hD]; exact allI P.vars.length args _ vb wc (by rw [HN.out]; omega) (HA.out.below hBx).1 c1'
  have HEx : Hid (Errs5 wc a) := HE.out.below hBx
  have e1 := HEx.out.c1
  obtain ⟨D1, hD1⟩ : ∃ D, D = varB P x := ⟨_, rfl⟩
  obtain ⟨D3, hD3⟩ : ∃ D, D = args.all (varB P) := ⟨_, rfl⟩
  have Q1 : Hid (D1 = varB P x) := hD1
  have Q3 : Hid (D3 = args.all (varB P)) := hD3
  clear hD1 hD3 c1' c2' HE HA
  have toK : ∀ x : Bs, kb.toList = x → k = x := fun x hx => by rw [← S_toList k, ← HKB.out]; exact hx
  by_cases hAddr : kb.toList = [97, 100, 100, 114]
  · obtain rfl : k = kAddr := toK _ hAddr
    clear toK HKB
    obtain ⟨D2, hD2⟩ : ∃ D, D = varB P y := ⟨_, rfl⟩
    have Q2 : Hid (D2 = varB P y) := hD2
    clear hD2
    go_wp2_with fail
    refine (HV.out x D1 Q1.out).mono ?_
    rintro e w1 ⟨rfl, hw⟩
    obtain rfl := hw.symm
    cases D1 with
    | false =>
      have hX : Hid (E = some 1) := by
        show E = some 1
        rw [QE.out, sE_Addr, ← Q1.out]; rfl
      go_wp2_with fail
      go_ret
      exact ⟨by rw [hX.out]; rfl, hBx⟩
    | true =>
      go_wp2_with fail
      refine (HV.out y D2 Q2.out).mono ?_
      rintro e w1 ⟨rfl, hw⟩
      obtain rfl := hw.symm
      cases D2 with
      | false =>
        have hX : Hid (E = some 1) := by
          show E = some 1
          rw [QE.out, sE_Addr, ← Q1.out, ← Q2.out]; rfl
        go_wp2_with fail
        go_ret
        exact ⟨by rw [hX.out]; rfl, hBx⟩
      | true =>
        go_wp2_with fail
        refine (HL.out D3 Q3.out).mono ?_
        rintro e w2 ⟨rfl, hB2⟩
        have hBw : Below w.heap.size w w2 := hBx.trans (hB2.mono hBx.size)
        have m0 := cell_keep hB2 k0
        have m2 := cell_keep hB2 k2
        have m3 := cell_keep hB2 k3
        have m1 := (HEx.out.below hB2).c1
        cases D3 with
        | false =>
          have hX : Hid (E = some 1) := by
            show E = some 1
            rw [QE.out, sE_Addr, ← Q1.out, ← Q2.out, ← Q3.out]; rfl
          go_wp2_with fail
          go_ret
          exact ⟨by rw [hX.out]; rfl, hBw⟩
        | true =>
          by_cases h3 : 0 < (n : Int)
          · have hX : Hid (E = some 2) := by
              show E = some 2
              rw [QE.out, sE_Addr, ← Q1.out, ← Q2.out, ← Q3.out, show args.isEmpty = false by rw [List.isEmpty_eq_false_iff]; intro q; have := HN.out; rw [q] at this; simp at this; omega]; rfl
            have e8 := (HEx.out.below hB2).c2
            go_wp2_with fail
            go_ret
            exact ⟨by rw [hX.out]; rfl, hBw⟩
          · have hX : Hid (E = none) := by
              show E = none
              rw [QE.out, sE_Addr, ← Q1.out, ← Q2.out, ← Q3.out, show args.isEmpty = true by rw [List.isEmpty_iff]; exact List.eq_nil_of_length_eq_zero (by rw [HN.out]; omega)]; rfl
            go_wp2_with fail
            go_ret
            exact ⟨by rw [hX.out]; rfl, hBw⟩
  by_cases hCopy : kb.toList = [99, 111, 112, 121]
  · obtain rfl : k = kCopy := toK _ hCopy
    clear toK HKB
    obtain ⟨D2, hD2⟩ : ∃ D, D = varB P y := ⟨_, rfl⟩
    have Q2 : Hid (D2 = varB P y) := hD2
    clear hD2
    go_wp2_with fail
    refine (HV.out x D1 Q1.out).mono ?_
    rintro e w1 ⟨rfl, hw⟩
    obtain rfl := hw.symm
    cases D1 with
    | false =>
      have hX : Hid (E = some 1) := by
        show E = some 1
        rw [QE.out, sE_Copy, ← Q1.out]; rfl
      go_wp2_with fail
      go_ret
      exact ⟨by rw [hX.out]; rfl, hBx⟩
    | true =>
      go_wp2_with fail
      refine (HV.out y D2 Q2.out).mono ?_
      rintro e w1 ⟨rfl, hw⟩
      obtain rfl := hw.symm
      cases D2 with
      | false =>
        have hX : Hid (E = some 1) := by
          show E = some 1
          rw [QE.out, sE_Copy, ← Q1.out, ← Q2.out]; rfl
        go_wp2_with fail
        go_ret
        exact ⟨by rw [hX.out]; rfl, hBx⟩
      | true =>
        go_wp2_with fail
        refine (HL.out D3 Q3.out).mono ?_
        rintro e w2 ⟨rfl, hB2⟩
        have hBw : Below w.heap.size w w2 := hBx.trans (hB2.mono hBx.size)
        have m0 := cell_keep hB2 k0
        have m2 := cell_keep hB2 k2
        have m3 := cell_keep hB2 k3
        have m1 := (HEx.out.below hB2).c1
        cases D3 with
        | false =>
          have hX : Hid (E = some 1) := by
            show E = some 1
            rw [QE.out, sE_Copy, ← Q1.out, ← Q2.out, ← Q3.out]; rfl
          go_wp2_with fail
          go_ret
          exact ⟨by rw [hX.out]; rfl, hBw⟩
        | true =>
          by_cases h3 : 0 < (n : Int)
          · have hX : Hid (E = some 2) := by
              show E = some 2
              rw [QE.out, sE_Copy, ← Q1.out, ← Q2.out, ← Q3.out, show args.isEmpty = false by rw [List.isEmpty_eq_false_iff]; intro q; have := HN.out; rw [q] at this; simp at this; omega]; rfl
            have e8 := (HEx.out.below hB2).c2
            go_wp2_with fail
            go_ret
            exact ⟨by rw [hX.out]; rfl, hBw⟩
          · have hX : Hid (E = none) := by
              show E = none
              rw [QE.out, sE_Copy, ← Q1.out, ← Q2.out, ← Q3.out, show args.isEmpty = true by rw [List.isEmpty_iff]; exact List.eq_nil_of_length_eq_zero (by rw [HN.out]; omega)]; rfl
            go_wp2_with fail
            go_ret
            exact ⟨by rw [hX.out]; rfl, hBw⟩
  by_cases hLoad : kb.toList = [108, 111, 97, 100]
  · obtain rfl : k = kLoad := toK _ hLoad
    clear toK HKB
    obtain ⟨D2, hD2⟩ : ∃ D, D = varB P y := ⟨_, rfl⟩
    have Q2 : Hid (D2 = varB P y) := hD2
    clear hD2
    go_wp2_with fail
    refine (HV.out x D1 Q1.out).mono ?_
    rintro e w1 ⟨rfl, hw⟩
    obtain rfl := hw.symm
    cases D1 with
    | false =>
      have hX : Hid (E = some 1) := by
        show E = some 1
        rw [QE.out, sE_Load, ← Q1.out]; rfl
      go_wp2_with fail
      go_ret
      exact ⟨by rw [hX.out]; rfl, hBx⟩
    | true =>
      go_wp2_with fail
      refine (HV.out y D2 Q2.out).mono ?_
      rintro e w1 ⟨rfl, hw⟩
      obtain rfl := hw.symm
      cases D2 with
      | false =>
        have hX : Hid (E = some 1) := by
          show E = some 1
          rw [QE.out, sE_Load, ← Q1.out, ← Q2.out]; rfl
        go_wp2_with fail
        go_ret
        exact ⟨by rw [hX.out]; rfl, hBx⟩
      | true =>
        go_wp2_with fail
        refine (HL.out D3 Q3.out).mono ?_
        rintro e w2 ⟨rfl, hB2⟩
        have hBw : Below w.heap.size w w2 := hBx.trans (hB2.mono hBx.size)
        have m0 := cell_keep hB2 k0
        have m2 := cell_keep hB2 k2
        have m3 := cell_keep hB2 k3
        have m1 := (HEx.out.below hB2).c1
        cases D3 with
        | false =>
          have hX : Hid (E = some 1) := by
            show E = some 1
            rw [QE.out, sE_Load, ← Q1.out, ← Q2.out, ← Q3.out]; rfl
          go_wp2_with fail
          go_ret
          exact ⟨by rw [hX.out]; rfl, hBw⟩
        | true =>
          by_cases h3 : 0 < (n : Int)
          · have hX : Hid (E = some 2) := by
              show E = some 2
              rw [QE.out, sE_Load, ← Q1.out, ← Q2.out, ← Q3.out, show args.isEmpty = false by rw [List.isEmpty_eq_false_iff]; intro q; have := HN.out; rw [q] at this; simp at this; omega]; rfl
            have e8 := (HEx.out.below hB2).c2
            go_wp2_with fail
            go_ret
            exact ⟨by rw [hX.out]; rfl, hBw⟩
          · have hX : Hid (E = none) := by
              show E = none
              rw [QE.out, sE_Load, ← Q1.out, ← Q2.out, ← Q3.out, show args.isEmpty = true by rw [List.isEmpty_iff]; exact List.eq_nil_of_length_eq_zero (by rw [HN.out]; omega)]; rfl
            go_wp2_with fail
            go_ret
            exact ⟨by rw [hX.out]; rfl, hBw⟩
  by_cases hStore : kb.toList = [115, 116, 111, 114, 101]
  · obtain rfl : k = kStore := toK _ hStore
    clear toK HKB
    obtain ⟨D2, hD2⟩ : ∃ D, D = varB P y := ⟨_, rfl⟩
    have Q2 : Hid (D2 = varB P y) := hD2
    clear hD2
    go_wp2_with fail
    refine (HV.out x D1 Q1.out).mono ?_
    rintro e w1 ⟨rfl, hw⟩
    obtain rfl := hw.symm
    cases D1 with
    | false =>
      have hX : Hid (E = some 1) := by
        show E = some 1
        rw [QE.out, sE_Store, ← Q1.out]; rfl
      go_wp2_with fail
      go_ret
      exact ⟨by rw [hX.out]; rfl, hBx⟩
    | true =>
      go_wp2_with fail
      refine (HV.out y D2 Q2.out).mono ?_
      rintro e w1 ⟨rfl, hw⟩
      obtain rfl := hw.symm
      cases D2 with
      | false =>
        have hX : Hid (E = some 1) := by
          show E = some 1
          rw [QE.out, sE_Store, ← Q1.out, ← Q2.out]; rfl
        go_wp2_with fail
        go_ret
        exact ⟨by rw [hX.out]; rfl, hBx⟩
      | true =>
        go_wp2_with fail
        refine (HL.out D3 Q3.out).mono ?_
        rintro e w2 ⟨rfl, hB2⟩
        have hBw : Below w.heap.size w w2 := hBx.trans (hB2.mono hBx.size)
        have m0 := cell_keep hB2 k0
        have m2 := cell_keep hB2 k2
        have m3 := cell_keep hB2 k3
        have m1 := (HEx.out.below hB2).c1
        cases D3 with
        | false =>
          have hX : Hid (E = some 1) := by
            show E = some 1
            rw [QE.out, sE_Store, ← Q1.out, ← Q2.out, ← Q3.out]; rfl
          go_wp2_with fail
          go_ret
          exact ⟨by rw [hX.out]; rfl, hBw⟩
        | true =>
          by_cases h3 : 0 < (n : Int)
          · have hX : Hid (E = some 2) := by
              show E = some 2
              rw [QE.out, sE_Store, ← Q1.out, ← Q2.out, ← Q3.out, show args.isEmpty = false by rw [List.isEmpty_eq_false_iff]; intro q; have := HN.out; rw [q] at this; simp at this; omega]; rfl
            have e8 := (HEx.out.below hB2).c2
            go_wp2_with fail
            go_ret
            exact ⟨by rw [hX.out]; rfl, hBw⟩
          · have hX : Hid (E = none) := by
              show E = none
              rw [QE.out, sE_Store, ← Q1.out, ← Q2.out, ← Q3.out, show args.isEmpty = true by rw [List.isEmpty_iff]; exact List.eq_nil_of_length_eq_zero (by rw [HN.out]; omega)]; rfl
            go_wp2_with fail
            go_ret
            exact ⟨by rw [hX.out]; rfl, hBw⟩
  by_cases hCall : kb.toList = [99, 97, 108, 108]
  · obtain rfl : k = kCall := toK _ hCall
    clear toK HKB
    obtain ⟨D2, hD2⟩ : ∃ D, D = varB P y := ⟨_, rfl⟩
    have Q2 : Hid (D2 = varB P y) := hD2
    clear hD2
    go_wp2_with fail
    refine (HV.out x D1 Q1.out).mono ?_
    rintro e w1 ⟨rfl, hw⟩
    obtain rfl := hw.symm
    cases D1 with
    | false =>
      have hX : Hid (E = some 1) := by
        show E = some 1
        rw [QE.out, sE_Call, ← Q1.out]; rfl
      go_wp2_with fail
      go_ret
      exact ⟨by rw [hX.out]; rfl, hBx⟩
    | true =>
      go_wp2_with fail
      refine (HV.out y D2 Q2.out).mono ?_
      rintro e w1 ⟨rfl, hw⟩
      obtain rfl := hw.symm
      cases D2 with
      | false =>
        have hX : Hid (E = some 1) := by
          show E = some 1
          rw [QE.out, sE_Call, ← Q1.out, ← Q2.out]; rfl
        go_wp2_with fail
        go_ret
        exact ⟨by rw [hX.out]; rfl, hBx⟩
      | true =>
        go_wp2_with fail
        refine (HL.out D3 Q3.out).mono ?_
        rintro e w2 ⟨rfl, hB2⟩
        have hBw : Below w.heap.size w w2 := hBx.trans (hB2.mono hBx.size)
        have m0 := cell_keep hB2 k0
        have m2 := cell_keep hB2 k2
        have m3 := cell_keep hB2 k3
        have m1 := (HEx.out.below hB2).c1
        cases D3 with
        | false =>
          have hX : Hid (E = some 1) := by
            show E = some 1
            rw [QE.out, sE_Call, ← Q1.out, ← Q2.out, ← Q3.out]; rfl
          go_wp2_with fail
          go_ret
          exact ⟨by rw [hX.out]; rfl, hBw⟩
        | true =>
          by_cases h3 : 3 < (n : Int)
          · have hX : Hid (E = some 8) := by
              show E = some 8
              rw [QE.out, sE_Call, ← Q1.out, ← Q2.out, ← Q3.out, HN.out, decide_eq_true (show 3 < n by omega)]; rfl
            have e8 := (HEx.out.below hB2).c8
            go_wp2_with fail
            go_ret
            exact ⟨by rw [hX.out]; rfl, hBw⟩
          · have hX : Hid (E = none) := by
              show E = none
              rw [QE.out, sE_Call, ← Q1.out, ← Q2.out, ← Q3.out, HN.out, decide_eq_false (show ¬ 3 < n by omega)]; rfl
            go_wp2_with fail
            go_ret
            exact ⟨by rw [hX.out]; rfl, hBw⟩
  by_cases hFun : kb.toList = [102, 117, 110]
  · obtain rfl : k = kFun := toK _ hFun
    clear toK HKB
    obtain ⟨D2, hD2⟩ : ∃ D, D = funB P y := ⟨_, rfl⟩
    have Q2 : Hid (D2 = funB P y) := hD2
    clear hD2
    go_wp2_with fail
    refine (HV.out x D1 Q1.out).mono ?_
    rintro e w1 ⟨rfl, hw⟩
    obtain rfl := hw.symm
    cases D1 with
    | false =>
      have hX : Hid (E = some 1) := by
        show E = some 1
        rw [QE.out, sE_Fun, ← Q1.out]; rfl
      go_wp2_with fail
      go_ret
      exact ⟨by rw [hX.out]; rfl, hBx⟩
    | true =>
      go_wp2_with fail
      refine (HF.out y D2 Q2.out).mono ?_
      rintro e w1 ⟨rfl, hw⟩
      obtain rfl := hw.symm
      cases D2 with
      | false =>
        have hX : Hid (E = some 1) := by
          show E = some 1
          rw [QE.out, sE_Fun, ← Q1.out, ← Q2.out]; rfl
        go_wp2_with fail
        go_ret
        exact ⟨by rw [hX.out]; rfl, hBx⟩
      | true =>
        go_wp2_with fail
        refine (HL.out D3 Q3.out).mono ?_
        rintro e w2 ⟨rfl, hB2⟩
        have hBw : Below w.heap.size w w2 := hBx.trans (hB2.mono hBx.size)
        have m0 := cell_keep hB2 k0
        have m2 := cell_keep hB2 k2
        have m3 := cell_keep hB2 k3
        have m1 := (HEx.out.below hB2).c1
        cases D3 with
        | false =>
          have hX : Hid (E = some 1) := by
            show E = some 1
            rw [QE.out, sE_Fun, ← Q1.out, ← Q2.out, ← Q3.out]; rfl
          go_wp2_with fail
          go_ret
          exact ⟨by rw [hX.out]; rfl, hBw⟩
        | true =>
          by_cases h3 : 0 < (n : Int)
          · have hX : Hid (E = some 2) := by
              show E = some 2
              rw [QE.out, sE_Fun, ← Q1.out, ← Q2.out, ← Q3.out, show args.isEmpty = false by rw [List.isEmpty_eq_false_iff]; intro q; have := HN.out; rw [q] at this; simp at this; omega]; rfl
            have e8 := (HEx.out.below hB2).c2
            go_wp2_with fail
            go_ret
            exact ⟨by rw [hX.out]; rfl, hBw⟩
          · have hX : Hid (E = none) := by
              show E = none
              rw [QE.out, sE_Fun, ← Q1.out, ← Q2.out, ← Q3.out, show args.isEmpty = true by rw [List.isEmpty_iff]; exact List.eq_nil_of_length_eq_zero (by rw [HN.out]; omega)]; rfl
            go_wp2_with fail
            go_ret
            exact ⟨by rw [hX.out]; rfl, hBw⟩
  by_cases hNew : kb.toList = [110, 101, 119]
  · obtain rfl : k = kNew := toK _ hNew
    clear toK HKB
    go_wp2_with fail
    refine (HV.out x D1 Q1.out).mono ?_
    rintro e w1 ⟨rfl, hw⟩
    obtain rfl := hw.symm
    cases D1 with
    | false =>
      have hX : Hid (E = some 1) := by
        show E = some 1
        rw [QE.out, sE_New, ← Q1.out]; rfl
      go_wp2_with fail
      go_ret
      exact ⟨by rw [hX.out]; rfl, hBx⟩
    | true =>
      go_wp2_with fail
      refine (cs1 y wc).mono ?_
      rintro e w1 ⟨rfl, hw⟩
      obtain rfl := hw.symm
      go_wp2_with fail
      refine (HL.out D3 Q3.out).mono ?_
      rintro e w2 ⟨rfl, hB2⟩
      have hBw : Below w.heap.size w w2 := hBx.trans (hB2.mono hBx.size)
      have m0 := cell_keep hB2 k0
      have m2 := cell_keep hB2 k2
      have m3 := cell_keep hB2 k3
      have m1 := (HEx.out.below hB2).c1
      cases D3 with
      | false =>
        have hX : Hid (E = some 1) := by
          show E = some 1
          rw [QE.out, sE_New, ← Q1.out, ← Q3.out]; rfl
        go_wp2_with fail
        go_ret
        exact ⟨by rw [hX.out]; rfl, hBw⟩
      | true =>
        by_cases h3 : 0 < (n : Int)
        · have hX : Hid (E = some 2) := by
            show E = some 2
            rw [QE.out, sE_New, ← Q1.out, ← Q3.out, show args.isEmpty = false by rw [List.isEmpty_eq_false_iff]; intro q; have := HN.out; rw [q] at this; simp at this; omega]; rfl
          have e8 := (HEx.out.below hB2).c2
          go_wp2_with fail
          go_ret
          exact ⟨by rw [hX.out]; rfl, hBw⟩
        · by_cases hy : y = 0
          · have hX : Hid (E = none) := by
              show E = none
              rw [QE.out, sE_New, ← Q1.out, ← Q3.out, show args.isEmpty = true by rw [List.isEmpty_iff]; exact List.eq_nil_of_length_eq_zero (by rw [HN.out]; omega), hy]; rfl
            go_wp2_with fail
            go_ret
            exact ⟨by rw [hX.out]; rfl, hBw⟩
          · have hX : Hid (E = some 2) := by
              show E = some 2
              rw [QE.out, sE_New, ← Q1.out, ← Q3.out, show args.isEmpty = true by rw [List.isEmpty_iff]; exact List.eq_nil_of_length_eq_zero (by rw [HN.out]; omega), beq_eq_false_iff_ne.2 hy]; rfl
            have e8 := (HEx.out.below hB2).c2
            go_wp2_with fail
            go_ret
            exact ⟨by rw [hX.out]; rfl, hBw⟩
  have hX : Hid (E = some 3) := by
    show E = some 3
    rw [QE.out]
    refine sE_none P k x y args ?_
    cases e : kinds.contains k with
    | false => rfl
    | true =>
      exfalso
      have hkk : kb.toList = k := by rw [HKB.out, S_toList]
      rcases kinds_cases e with g | g | g | g | g | g | g
      · exact hAddr (by rw [hkk, g]; rfl)
      · exact hCopy (by rw [hkk, g]; rfl)
      · exact hLoad (by rw [hkk, g]; rfl)
      · exact hStore (by rw [hkk, g]; rfl)
      · exact hNew (by rw [hkk, g]; rfl)
      · exact hFun (by rw [hkk, g]; rfl)
      · exact hCall (by rw [hkk, g]; rfl)
  have e3 := HEx.out.c3
  have gAddr := beq_eq_false_iff_ne.2 hAddr
  have gCopy := beq_eq_false_iff_ne.2 hCopy
  have gLoad := beq_eq_false_iff_ne.2 hLoad
  have gStore := beq_eq_false_iff_ne.2 hStore
  have gNew := beq_eq_false_iff_ne.2 hNew
  have gFun := beq_eq_false_iff_ne.2 hFun
  have gCall := beq_eq_false_iff_ne.2 hCall
  clear toK HKB hAddr hCopy hLoad hStore hNew hFun hCall HV HF HL e1 k1 k2 k3
  go_wp2_with fail
  go_ret
  exact ⟨by rw [hX.out]; rfl, hBx⟩
end Go.Proofs.YtglonlpfnllocaaGreatDoor

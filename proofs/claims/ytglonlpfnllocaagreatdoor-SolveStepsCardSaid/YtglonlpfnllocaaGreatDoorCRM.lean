/-
  Package cons: rules, by a contract.
-/
import Derived.Test.YtglonlpfnllocaaGreatDoorCBM
import Derived.Test.YtglonlpfnllocaaGreatDoorPJM
import Derived.Deep.DeepCutAuto
import Derived.Lib.QuietBelow
namespace Go.Proofs.YtglonlpfnllocaaGreatDoor
open Go.RowKit Go.Extern.Stop Go.Stop Go.Extern

theorem getDmC {α : Type} [Inhabited α] {l : List α} {k : Nat} (h : k < l.length) : l.getD k default ∈ l := by
  simp [List.getD, h]
abbrev stBox (K : ByteArray) (x y : Int) (a : Value) : Obj := .cells #[.string K, .int .i64 x, .int .i64 y, a] 45
theorem right_small {P : ProgD} (h : checkE P = none) : P.stmts.length ≤ 80 ∧ P.vars.length ≤ 40 ∧ P.funs.length ≤ 8 := by
  have hf : fullB P = false := by
    cases e : fullB P with
    | false => rfl
    | true => unfold checkE at h; rw [e] at h; simp at h
  unfold fullB at hf
  simp at hf
  omega
set_option maxRecDepth 100000 in
set_option maxHeartbeats 8000000 in
theorem rules_any (a : Nat → Addr) (P : ProgD) (v1 v2 v3 : Value) (w : World) (hs : SmallP P) (hc : checkE P = none) (h : IsProg w v1 v2 v3 P) (hE : Errs5 w a) :
    Calls Tryz.prog 56 #[.agg #[v1, v2, v3]] w fun e w' => ∃ v, e = .returned v ∧ IsRules w' v (rulesD P) ∧ Below w.heap.size w w' := by
  obtain ⟨s1, s2, s3⟩ := right_small hc
  have HR : Hid (Right P) := right_of hc
  have H : Hid (IsProg w v1 v2 v3 P) := h
  obtain ⟨⟨a1, c1, rfl, -, -⟩, ⟨a2, c2, rfl, -, -⟩, ⟨a3, c3, rfl, -, -⟩⟩ := h
  obtain ⟨n1, hn1⟩ : ∃ m, m = P.vars.length := ⟨_, rfl⟩
  obtain ⟨n2, hn2⟩ : ∃ m, m = P.funs.length := ⟨_, rfl⟩
  obtain ⟨n, hn⟩ : ∃ m, m = P.stmts.length := ⟨_, rfl⟩
  have HN : Hid (n1 = P.vars.length ∧ n2 = P.funs.length ∧ n = P.stmts.length) := ⟨hn1, hn2, hn⟩
  rw [← hn1, ← hn2, ← hn] at H ⊢
  rw [← hn] at s1
  rw [← hn1] at s2
  obtain ⟨W, hW⟩ : ∃ W, W = w.alloc (.cells #[.slice a1 n1 c1, .slice a2 n2 c2, .slice a3 n c3] 26) := ⟨_, rfl⟩
  have hBW : Below w.heap.size w W := by rw [hW]; exact below1 w _
  obtain ⟨p0, p1, p2⟩ : Box3 W w.heap.size (.slice a1 n1 c1) (.slice a2 n2 c2) (.slice a3 n c3) := by rw [hW]; exact box3_new w _ _ _ _
  obtain ⟨M, hM⟩ : ∃ M, M = places P P.stmts.length := ⟨_, rfl⟩
  have hMb : M ≤ 200 := by have := places_le P P.stmts.length; omega
  have KN : Hid (∀ wx, Below w.heap.size w wx → Calls Tryz.prog 27 #[.agg #[.slice a1 n1 c1, .slice a2 n2 c2, .slice a3 n c3]] wx fun e w' => e = .returned (.int .i64 (M : Int)) ∧ Below wx.heap.size wx w') := fun wx hwx => by
    have := nodes_any a P _ _ _ wx hs (H.out.below hwx) (hE.below hwx)
    rw [show nodesD P = (M : Int) by unfold nodesD; rw [hc, hM]; rfl] at this
    exact this
  have HM : Hid (M = places P P.stmts.length) := hM
  have KJ : ∀ d os, Calls Tryz.prog 27 #[.agg #[.slice a1 n1 c1, .slice a2 n2 c2, .slice a3 n c3]] (Go.Sort.grow (redrawn W d) os) fun e w'' => e = .returned (.int .i64 (M : Int)) ∧ ∃ p : Regrown, w'' = Go.Sort.grow (redrawn W p.d) p.os := fun d os => Calls.regrown_of (KN.out _ (hBW.trans ((below_regrown W d os).mono hBW.size)))
  have P0 := cell_regrown p0
  have P1 := cell_regrown p1
  have P2 := cell_regrown p2
  have HS : Hid (SmallP P) := hs
  clear hn1 hn2 hn hM hE hc hs
  go_enter Tryz.func56, Tryz.ntmps56
  go_upto_region 1 with fail
  rw [← hW]
  clear hW
  refine wp_region_quiet_below (by kernel_rfl) (by kernel_rfl) ?_
  repeat (quiet_step (first | exact KJ _ _))
  refine wpQuiet_nil ?_
  intro _ hw'
  obtain ⟨⟨dq, osq⟩, hw''⟩ := hw'
  subst hw''
  obtain ⟨W2, hW2⟩ : ∃ W2, W2 = Go.Sort.grow (redrawn W dq) osq := ⟨_, rfl⟩
  have hB2 : Below W.heap.size W W2 := by rw [hW2]; exact below_regrown W dq osq
  rw [← hW2]
  clear hW2 KJ P0 P1 P2
  have hB2w : Below w.heap.size w W2 := hBW.trans (hB2.mono hBW.size)
  replace p2 := cell_keep hB2 p2
  have p2' := fun o => cell_keep (below1 W2 o) p2
  have hmk := make_rules n (by omega)
  obtain ⟨g, hg⟩ : ∃ g, g = W2.heap.size := ⟨_, rfl⟩
  go_upto_region 4 with fail
  obtain ⟨W3, hW3⟩ : ∃ W3, W3 = W2.alloc (.cells (madeCells #[.string ⟨#[]⟩, .int .i64 0, .int .i64 0, .int .i64 0, .slice none 0 0] (n * 5)) TRu) := ⟨_, rfl⟩
  have HI0 : Hid (RulesI W3 g n 0 P ∧ Below w.heap.size w W3) := by
    refine ⟨⟨⟨_, by rw [hW3, hg]; exact heap_new W2 _, by simp [size_madeCells]⟩, fun j hj => absurd hj (Nat.not_lt_zero _)⟩, ?_⟩
    rw [hW3]; exact hB2w.alloc hB2w.size _
  have HGL : Hid (w.heap.size ≤ g) := by show _ ≤ _; rw [hg]; exact hB2w.size
  rw [← hW3, ← hg]
  clear hW3 hg hmk p0 p1 p2 p2' hB2
  go_loopw [3, 20] (fun t3 t20 wr => ∃ k : Nat, k ≤ n ∧ t20 = .int .i64 k ∧ t3 = .int .i64 ((places P k : Nat) : Int) ∧ RulesI wr g n k P ∧ Below w.heap.size w wr) (fun _ t20 _ => (n - intOf t20).toNat)
  case atStart => exact ⟨0, Nat.zero_le _, rfl, by rw [HN.out.1]; simp [places], HI0.out.1, HI0.out.2⟩
  case round =>
    clear HI0
    obtain ⟨k, hk, rfl, rfl, hI, hwr⟩ := hrel
    by_cases hlt : k < n
    · have hkl : k < P.stmts.length := by rw [← HN.out.2.2]; exact hlt
      obtain ⟨_, _, hv3, _, hst3⟩ := (H.out.below hwr).stmts
      obtain ⟨b, o, ha3, e0⟩ := hst3 k hkl
      obtain rfl : a3 = some ⟨b, o, none⟩ := by rw [← ha3]; exact (Value.slice.inj hv3).1
      obtain ⟨st, hste⟩ : ∃ z, z = P.stmts.getD k default := ⟨_, rfl⟩
      rw [← hste] at e0
      obtain ⟨pv, q0, q1, q2, q3, hA, aa, ac, rfl, -⟩ := e0
      obtain ⟨k1, k2, k3, k4, -, -, k7⟩ := stmt_parts (HR.out.st _ (getDmC hkl))
      rw [← hste] at k1 k2 k3 k4 k7
      have hpl := places_succ P k hkl
      rw [← hste] at hpl
      have hplb : places P k ≤ 200 := by have := places_le P k; have := HN.out.1; omega
      have hA80 : st.args.length ≤ 1000000 := by have := HS.out.2.2.2.2 _ (getDmC hkl); rw [← hste] at this; omega
      have hRD : ruleD P k = if st.kind = kAddr then ⟨kBase, st.x, st.y, k, []⟩ else if st.kind = kNew then ⟨kBase, st.x, (places P k : Nat), k, []⟩ else if st.kind = kFun then ⟨kBase, st.x, (places P P.stmts.length : Nat) + st.y, k, []⟩ else ⟨st.kind, st.y, st.x, k, st.args⟩ := by unfold ruleD; rw [← hste]
      obtain ⟨pk, hpk⟩ : ∃ z, z = places P k := ⟨_, rfl⟩
      rw [← hpk] at hpl hplb hRD ⊢
      obtain ⟨kd, hkd⟩ : ∃ z, z = S st.kind := ⟨_, rfl⟩
      obtain ⟨x, hx⟩ : ∃ z, z = st.x := ⟨_, rfl⟩
      obtain ⟨y, hy⟩ : ∃ z, z = st.y := ⟨_, rfl⟩
      obtain ⟨na, hna⟩ : ∃ z, z = st.args.length := ⟨_, rfl⟩
      rw [← hkd] at q0
      rw [← hx] at q1
      rw [← hy] at q2
      rw [← hna] at q3 hA
      have hki : (k : Int) < n := by omega
      have hk0 : (0 : Int) ≤ k := by omega
      obtain ⟨W4, hW4⟩ : ∃ W4, W4 = wr.alloc (stBox kd x y (.slice aa na ac)) := ⟨_, rfl⟩
      have hB4 : Below wr.heap.size wr W4 := by rw [hW4]; exact below1 wr _
      have hbx : W4.heap[wr.heap.size]? = some (stBox kd x y (.slice aa na ac)) := by rw [hW4]; exact heap_new wr _
      have s0 : W4.cell? ⟨wr.heap.size, 0, none⟩ = some (.string kd) := by rw [Lib.cell_of_heap hbx]; rfl
      have s1 : W4.cell? ⟨wr.heap.size, 1, none⟩ = some (.int .i64 x) := by rw [Lib.cell_of_heap hbx]; rfl
      have s2 : W4.cell? ⟨wr.heap.size, 2, none⟩ = some (.int .i64 y) := by rw [Lib.cell_of_heap hbx]; rfl
      have s3 : W4.cell? ⟨wr.heap.size, 3, none⟩ = some (.slice aa na ac) := by rw [Lib.cell_of_heap hbx]; rfl
      have hI4 := hI.below hB4
      have HI : Hid (RulesI W4 g n k P ∧ Below w.heap.size w W4) := ⟨hI4, hwr.trans (hB4.mono hwr.size)⟩
      obtain ⟨z0v, z0⟩ := hI4.cells (k * 5) (by omega)
      obtain ⟨z1v, z1⟩ := hI4.cells (k * 5 + 1) (by omega)
      obtain ⟨z2v, z2⟩ := hI4.cells (k * 5 + 2) (by omega)
      obtain ⟨z3v, z3⟩ := hI4.cells (k * 5 + 3) (by omega)
      obtain ⟨z4v, z4⟩ := hI4.cells (k * 5 + 4) (by omega)
      have f0 := hI4.frz (k * 5)
      have f1 := hI4.frz (k * 5 + 1)
      have f2 := hI4.frz (k * 5 + 2)
      have f3 := hI4.frz (k * 5 + 3)
      have f4 := hI4.frz (k * 5 + 4)
      have hgw : g ≠ wr.heap.size := by have := hI.lt; omega
      have HA : Hid (IsInts W4 (.slice aa na ac) st.args) := hA.below hB4
      have HKD : Hid (kd = S st.kind ∧ x = st.x ∧ y = st.y ∧ na = st.args.length ∧ (places P (k + 1)) = pk + (if st.kind == kNew then 1 else 0)) := ⟨hkd, hx, hy, hna, hpl⟩
      have hyb : st.kind = kFun → -1000 ≤ y ∧ y ≤ 1000 := fun e => by
        unfold yB funB at k3
        rw [if_pos (by simpa using e)] at k3
        simp only [Bool.and_eq_true, decide_eq_true_eq] at k3
        rw [hy]; omega
      have hkl2 : kd.toList = st.kind := by rw [hkd, S_toList]
      simp only [kinds, List.contains_cons, List.contains_nil, Bool.or_false, Bool.or_eq_true, beq_iff_eq] at k1
      clear hst3 ha3 hv3 hkd hx hy hna hpk hpl hA hI hI4 hste k2 k3 k4 k7 hbx
      go_upto_region 6 with fail
      rw [← hW4]
      clear hW4 q0 q1 q2 q3
      have k1' : st.kind = kAddr ∨ st.kind = kNew ∨ st.kind = kFun ∨ (st.kind ≠ kAddr ∧ st.kind ≠ kNew ∧ st.kind ≠ kFun) := by
        by_cases u1 : st.kind = kAddr
        · exact Or.inl u1
        by_cases u2 : st.kind = kNew
        · exact Or.inr (Or.inl u2)
        by_cases u3 : st.kind = kFun
        · exact Or.inr (Or.inr (Or.inl u3))
        · exact Or.inr (Or.inr (Or.inr ⟨u1, u2, u3⟩))
      clear k1
      rcases k1' with e | e | e | e
      · rw [if_pos e] at hRD
        have hkb : kd = ⟨#[97, 100, 100, 114]⟩ := by apply ByteArray.ext; rw [HKD.out.1, e]; rfl
        subst hkb
        have HP : Hid (RulesI (set5 W4 g k ⟨#[98, 97, 115, 101]⟩ x y (k : Int) (.slice none 0 0)) g n (k + 1) P) := HI.out.1.put hlt (by rw [hRD]; first | done | rfl) (by rw [hRD]; exact HKD.out.2.1) (by rw [hRD]; first | done | (exact HKD.out.2.2.1)) (by rw [hRD]) (by rw [hRD]; exact Or.inl ⟨rfl, _, _, rfl⟩) (by simp [Value.ownBlock])
        have HPL : Hid (places P (k + 1) = pk) := by show _ = _; rw [HKD.out.2.2.2.2, e]; rfl
        clear hRD e hkl2 hyb
        go_wp2_with fail
        go_roundw
        case rel => exact ⟨k + 1, hlt, by go_num, by rw [HPL.out], HP.out, below_set5 HI.out.2 HGL.out⟩
        case measure => simp [intOf]; omega
      · rw [if_neg (by rw [e]; decide), if_pos e] at hRD
        have hkb : kd = ⟨#[110, 101, 119]⟩ := by apply ByteArray.ext; rw [HKD.out.1, e]; rfl
        subst hkb
        have HP : Hid (RulesI (set5 W4 g k ⟨#[98, 97, 115, 101]⟩ x (pk : Int) (k : Int) (.slice none 0 0)) g n (k + 1) P) := HI.out.1.put hlt (by rw [hRD]; first | done | rfl) (by rw [hRD]; exact HKD.out.2.1) (by rw [hRD]; first | done | (rfl)) (by rw [hRD]) (by rw [hRD]; exact Or.inl ⟨rfl, _, _, rfl⟩) (by simp [Value.ownBlock])
        have HPL : Hid (places P (k + 1) = pk + 1) := by show _ = _; rw [HKD.out.2.2.2.2, e]; rfl
        clear hRD e hkl2 hyb
        go_wp2_with fail
        go_roundw
        case rel => exact ⟨k + 1, hlt, by go_num, by rw [HPL.out]; go_num, HP.out, below_set5 HI.out.2 HGL.out⟩
        case measure => simp [intOf]; omega
      · rw [if_neg (by rw [e]; decide), if_neg (by rw [e]; decide), if_pos e] at hRD
        obtain ⟨y0, y1⟩ := hyb e
        have hwrp : IntKind.i64.wrap ((M : Int) + y) = (M : Int) + y := by rw [IntKind.wrap_i64]; omega
        have hkb : kd = ⟨#[102, 117, 110]⟩ := by apply ByteArray.ext; rw [HKD.out.1, e]; rfl
        subst hkb
        have HP : Hid (RulesI (set5 W4 g k ⟨#[98, 97, 115, 101]⟩ x ((M : Int) + y) (k : Int) (.slice none 0 0)) g n (k + 1) P) := HI.out.1.put hlt (by rw [hRD]; first | done | rfl) (by rw [hRD]; exact HKD.out.2.1) (by rw [hRD]; first | done | (rw [HKD.out.2.2.1, HM.out])) (by rw [hRD]) (by rw [hRD]; exact Or.inl ⟨rfl, _, _, rfl⟩) (by simp [Value.ownBlock])
        have HPL : Hid (places P (k + 1) = pk) := by show _ = _; rw [HKD.out.2.2.2.2, e]; rfl
        clear hRD e hkl2 hyb
        go_wp2_with fail
        go_roundw
        case rel => exact ⟨k + 1, hlt, by go_num, by rw [HPL.out], HP.out, below_set5 HI.out.2 HGL.out⟩
        case measure => simp [intOf]; omega
      · rw [if_neg e.1, if_neg e.2.1, if_neg e.2.2] at hRD
        have HPL : Hid (places P (k + 1) = pk) := by
          show _ = _
          rw [HKD.out.2.2.2.2, if_neg (by simpa using e.2.1)]; rfl
        have hW4d : W4.drew.ownsRow W4.heap.size 3 1 (.slice none 0 0) 0 [] := World.ownsRow_nil _ _ _ _
        obtain ⟨v', w5, hr, ho5, hgr⟩ := run_append_ints W4.drew W4.heap.size (.slice none 0 0) 0 [] hW4d (.slice aa na ac) st.args (HA.out.below (Below.refl _ _).drew) (by omega) (Nat.le_refl _) 40
        have hB5 : Below W4.heap.size W4 w5 := (Below.refl _ _).drew.trans (below_of_grownS hgr (Nat.le_refl _) hW4d (Nat.le_refl _))
        obtain ⟨va, vc, rfl⟩ := owns_form ho5
        have hgw4 : g < W4.heap.size := HI.out.1.lt
        have HP : Hid (RulesI (set5 w5 g k kd y x (k : Int) (.slice va (0 + st.args.length) vc)) g n (k + 1) P) := (HI.out.1.below hB5).put hlt (by rw [hRD]; exact HKD.out.1) (by rw [hRD]; exact HKD.out.2.2.1) (by rw [hRD]; exact HKD.out.2.1) (by rw [hRD]) (by rw [hRD]; have := isInts_of_owns ho5; simpa using this) (fun q => by have := (ho5.lt g q).1; omega)
        have HR5 : Hid ((Builtin.append_ #[40, 40] 40 #[.slice none 0 0, .slice aa na ac]).run Tryz.prog W4.drew = .ok (.slice va (0 + st.args.length) vc) w5) := hr
        rw [Nat.zero_add, ← HKD.out.2.2.2.1] at HP HR5
        have hI5 := HI.out.1.below hB5
        obtain ⟨t0v, t0⟩ := hI5.cells (k * 5) (by omega)
        obtain ⟨t1v, t1⟩ := hI5.cells (k * 5 + 1) (by omega)
        obtain ⟨t2v, t2⟩ := hI5.cells (k * 5 + 2) (by omega)
        obtain ⟨t3v, t3⟩ := hI5.cells (k * 5 + 3) (by omega)
        obtain ⟨t4v, t4⟩ := hI5.cells (k * 5 + 4) (by omega)
        have g0 := hI5.frz (k * 5)
        have g1 := hI5.frz (k * 5 + 1)
        have g2 := hI5.frz (k * 5 + 2)
        have g3 := hI5.frz (k * 5 + 3)
        have g4 := hI5.frz (k * 5 + 4)
        have HB5 : Hid (Below w.heap.size w w5) := HI.out.2.trans (hB5.mono HI.out.2.size)
        have h1 : (kd.toList == [97, 100, 100, 114]) = false := by rw [hkl2]; exact beq_eq_false_iff_ne.2 e.1
        have h2 : (kd.toList == [110, 101, 119]) = false := by rw [hkl2]; exact beq_eq_false_iff_ne.2 e.2.1
        have h3 : (kd.toList == [102, 117, 110]) = false := by rw [hkl2]; exact beq_eq_false_iff_ne.2 e.2.2
        have KX : Hid (∀ wx, Below W4.heap.size W4 wx → wx.cell? ⟨wr.heap.size, 0, none⟩ = some (.string kd) ∧ wx.cell? ⟨wr.heap.size, 1, none⟩ = some (.int .i64 x) ∧ wx.cell? ⟨wr.heap.size, 2, none⟩ = some (.int .i64 y) ∧ wx.cell? ⟨wr.heap.size, 3, none⟩ = some (.slice aa na ac)) := fun wx hb => ⟨cell_keep hb s0, cell_keep hb s1, cell_keep hb s2, cell_keep hb s3⟩
        have KX5 : Hid ((set5 w5 g k kd y x (k : Int) (.slice va na vc)).cell? ⟨wr.heap.size, 0, none⟩ = some (.string kd) ∧ (set5 w5 g k kd y x (k : Int) (.slice va na vc)).cell? ⟨wr.heap.size, 1, none⟩ = some (.int .i64 x) ∧ (set5 w5 g k kd y x (k : Int) (.slice va na vc)).cell? ⟨wr.heap.size, 2, none⟩ = some (.int .i64 y) ∧ (set5 w5 g k kd y x (k : Int) (.slice va na vc)).cell? ⟨wr.heap.size, 3, none⟩ = some (.slice aa na ac)) := by
          obtain ⟨r0, r1, r2, r3⟩ := KX.out w5 hB5
          have ne := hgw.symm
          exact ⟨other_cell (other_cell (other_cell (other_cell (other_cell r0 ne) ne) ne) ne) ne, other_cell (other_cell (other_cell (other_cell (other_cell r1 ne) ne) ne) ne) ne, other_cell (other_cell (other_cell (other_cell (other_cell r2 ne) ne) ne) ne) ne, other_cell (other_cell (other_cell (other_cell (other_cell r3 ne) ne) ne) ne) ne⟩
        clear hr ho5 hgr hI5 hRD e hkl2 hyb hW4d z0 z1 z2 z3 z4 f0 f1 f2 f3 f4
        go_upto_region 7 with fail
        go_region_held3 (fun wx => wx.cell? ⟨wr.heap.size, 0, none⟩ = some (.string kd) ∧ wx.cell? ⟨wr.heap.size, 1, none⟩ = some (.int .i64 x) ∧ wx.cell? ⟨wr.heap.size, 2, none⟩ = some (.int .i64 y) ∧ wx.cell? ⟨wr.heap.size, 3, none⟩ = some (.slice aa na ac))
          ((go_split_ands; with_reducible first | exact KX.out _ (Below.refl _ _) | exact KX.out _ (Below.refl _ _).drew | exact KX.out _ hB5 | exact KX5.out))
          ((refine step_append_run rfl (.const (.slice none 0 0)) (.tmp 37) _ _ rfl _ _ rfl rfl _ _ HR5.out ?_))
        go_wp2_with fail
        go_roundw
        case rel => exact ⟨k + 1, hlt, by go_num, by rw [HPL.out], HP.out, below_set5 HB5.out HGL.out⟩
        case measure => simp [intOf]; omega
    · have hkn : k = n := by omega
      subst hkn
      have HI : Hid (RulesI wr g k k P) := hI
      clear hI
      go_wp2_with fail
      go_ret
      refine ⟨_, rfl, ⟨some ⟨g, 0, none⟩, k, by rw [rulesD_len, ← HN.out.2.2]; rfl, fun j hj => ⟨g, rfl, ?_⟩⟩, hwr⟩
      rw [rulesD_len] at hj
      rw [rulesD_at P j hj]
      exact HI.out.got j (by rw [HN.out.2.2]; exact hj)
end Go.Proofs.YtglonlpfnllocaaGreatDoor

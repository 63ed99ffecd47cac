/-
  Package calls: the function that asks whether a statement is idle, and how it is made: by contracts.
-/
import Derived.Test.YteekjigaicmohaaGreatDoorZYM
import Derived.Deep.RegionHeld3
import Derived.Laws.NewBlocks
import Derived.Deep.DeepCutAuto
import Derived.Test.YteekjigaicmohaaGreatDoorZZM
import Derived.Test.YteekjigaicmohaaGreatDoorHCM
namespace Go.Proofs.YteekjigaicmohaaGreatDoor
open Go.RowKit Go.Extern.Stop Go.Stop Go.Extern
attribute [local go_sem] Nat.lt_add_one
set_option maxRecDepth 100000 in
set_option maxHeartbeats 32000000 in
theorem isIdle_any (a1 a2 a3 : Option Addr) (n1 n2 n3 c1 c2 c3 : Nat) (va : Option Addr) (vn vc : Nat) (w : World) :
    Calls Tryz.prog 76 #[.agg #[.slice a1 n1 c1, .slice a2 n2 c2, .slice a3 n3 c3], .slice va vn vc] w fun e w' => ∃ b5 b6, e = .returned (.func (Fn.func 125) #[] #[.pointer (some ⟨b5, 0, none⟩), .pointer (some ⟨b6, 0, none⟩)]) ∧ Asks w' b5 b6 (.slice va vn vc) (.slice a1 n1 c1) (.slice a2 n2 c2) (.slice a3 n3 c3) ∧ Below w.heap.size w w' := by
  obtain ⟨W, hW⟩ : ∃ W, W = w.alloc (prgBox (.slice a1 n1 c1) (.slice a2 n2 c2) (.slice a3 n3 c3)) := ⟨_, rfl⟩
  have hBW : Below w.heap.size w W := by rw [hW]; exact below1 w _
  have HX : Hid (Box3 W w.heap.size (.slice a1 n1 c1) (.slice a2 n2 c2) (.slice a3 n3 c3)) := by show Box3 W _ _ _ _; rw [hW]; exact box3_new w _ _ _ _
  obtain ⟨p0, p1, p2⟩ := HX.out
  go_enter Tryz.func76, Tryz.ntmps76
  go_upto_region 1 with fail
  rw [← hW]
  clear hW
  obtain ⟨pb, hpb⟩ : ∃ b, b = w.heap.size := ⟨_, rfl⟩
  rw [← hpb] at HX p0 p1 p2 ⊢
  have HPB : Hid (pb = w.heap.size) := hpb
  clear hpb
  go_cut [5, 6] (fun s5 s6 wx => ∃ b5 b6, s5 = .pointer (some ⟨b5, 0, none⟩) ∧ s6 = .pointer (some ⟨b6, 0, none⟩) ∧ Asks wx b5 b6 (.slice va vn vc) (.slice a1 n1 c1) (.slice a2 n2 c2) (.slice a3 n3 c3) ∧ Below W.heap.size W wx)
  case first =>
    go_region_held3 (fun wx => Below W.heap.size W wx ∧ wx.cell? ⟨pb, 0, none⟩ = some (.slice a1 n1 c1) ∧ wx.cell? ⟨pb, 1, none⟩ = some (.slice a2 n2 c2) ∧ wx.cell? ⟨pb, 2, none⟩ = some (.slice a3 n3 c3))
      ((go_split_ands; refine keep3Y p0 p1 p2 ?_; repeat (with_reducible first | assumption | exact Below.refl _ _ | refine Below.drew ?_ | refine below_alY ?_ _ | refine below_setY ?_ (by (try simp); try omega))))
      (first
        | (go_at_call 120; refine (pointedBy_any va vn vc _).mono ?_; rintro e w1 ⟨rfl, rfl⟩)
        | (go_at_call 70; refine (calledBy_any (.slice a1 n1 c1) (.slice a2 n2 c2) (.slice a3 n3 c3) va vn vc _).mono ?_; rintro e w1 ⟨rfl, rfl⟩))
    all_goals (go_wp2_with fail; go_meet)
    all_goals
      refine ⟨_, _, rfl, rfl, ?_, ?_⟩
    all_goals first
      | ((repeat (with_reducible first | exact Below.refl _ _ | refine Below.drew ?_ | refine below_alY ?_ _)); done)
      | (apply Exists.intro; apply Exists.intro; apply Exists.intro
         refine ⟨?_, ?_, ?_, ?_, ?_, ?_, ?_⟩ <;> repeat (first | rw [World.cell?_drew] | (refine (World.cell?_alloc_at _ _ _ _ ?_).trans rfl; (simp <;> omega); done) | (refine (World.cell?_alloc_past _ _ _ ?_).trans ?_; (focus (simp <;> omega))) | fail))
  case rest =>
  obtain ⟨b5, b6, rfl, rfl, hA, hb⟩ := hcut
  have HA : Hid (Asks wc b5 b6 (.slice va vn vc) (.slice a1 n1 c1) (.slice a2 n2 c2) (.slice a3 n3 c3) ∧ Below w.heap.size w wc) := ⟨hA, hBW.trans (hb.mono hBW.size)⟩
  clear hA hb
  go_wp2_with fail
  go_ret
  exact ⟨b5, b6, rfl, HA.out⟩
theorem int_zero (m : Nat) : ((m : Int) == 0) = decide (m = 0) := by
  rw [Bool.eq_iff_iff, beq_iff_eq, decide_eq_true_iff]; omega
set_option maxRecDepth 100000 in
set_option maxHeartbeats 16000000 in
theorem idle1_any (P : ProgD) (L : List (List Int)) (hG : Good P L) (s : StmtD) (hs : s ∈ P.stmts) (kd : ByteArray) (hkd : kd.toList = s.kind) (aa : Option Addr) (ac : Nat) (b5 b6 : Nat) (va : Option Addr) (vn vc : Nat) (v1 v2 v3 : Value) (w : World)
    (hA : Asks w b5 b6 (.slice va vn vc) v1 v2 v3) (hI : IsSets w (.slice va vn vc) L) (hF : IsFuns w v2 P.funs) :
    Calls Tryz.prog 125 #[.agg #[.string kd, .int .i64 s.x, .int .i64 s.y, .slice aa s.args.length ac], .pointer (some ⟨b5, 0, none⟩), .pointer (some ⟨b6, 0, none⟩)] w fun e w' => e = .returned (.bool (idleL P L s)) ∧ Below w.heap.size w w' := by
  have hl := hG.len
  obtain ⟨⟨X, hX, hXn⟩, hy, hargs⟩ := hG.stm hs
  obtain ⟨hb, h2, p2, q1, q2, q3, q4, q5⟩ := hA
  have hk := rule_kinds s.kind
  rw [← hkd] at hk
  obtain ⟨na, hna⟩ : ∃ na, na = s.args.length := ⟨_, rfl⟩
  obtain ⟨W, hW⟩ : ∃ W, W = w.alloc (stmBox kd s.x s.y (.slice aa na ac)) := ⟨_, rfl⟩
  have hBW : Below w.heap.size w W := by rw [hW]; exact below1 w _
  have HB : Hid (W.heap[w.heap.size]? = some (stmBox kd s.x s.y (.slice aa na ac))) := by show _ = _; rw [hW]; exact heap_new w _
  have KP : Hid (∀ n : Nat, n < L.length → Calls Tryz.prog 159 #[.int .i64 (n : Int), .pointer (some ⟨hb, 0, none⟩)] W fun e w' => ∃ xa xc, e = .returned (.slice xa (ptrL L (n : Int)).length xc) ∧ IsInts w' (.slice xa (ptrL L (n : Int)).length xc) (ptrL L (n : Int)) ∧ Below W.heap.size W w') := fun n hn =>
    ptr1_any L hb n va vn vc W hn (by have := (hG.row n hn).1; omega) (hI.below hBW) (cell_keep hBW q3)
  have KC : Hid (s.kind = kCall → Calls Tryz.prog 116 #[.agg #[.string kd, .int .i64 s.x, .int .i64 s.y, .slice aa na ac], .pointer (some ⟨h2, 0, none⟩), .pointer (some ⟨p2, 0, none⟩)] W fun e w' => ∃ xa xc, e = .returned (.slice xa (calledL P L s).length xc) ∧ IsInts w' (.slice xa (calledL P L s).length xc) (calledL P L s) ∧ Below W.heap.size W w') := fun hkc => by
    obtain ⟨Y, hY, hYn⟩ := hy (Or.inr (Or.inl hkc))
    have hr := hG.row Y (by omega)
    have := call1_any P L s kd hkd aa ac h2 p2 Y hY (by omega) va vn vc v1 v2 v3 W (by omega) (by omega) hr.2 (by omega) (fun f hf => by have := hG.params f hf; omega) (by omega) (hI.below hBW) (cell_keep hBW q4) (hF.below hBW) (q5.below hBW)
    rw [← hna] at this
    exact this
  have c0 : W.cell? ⟨w.heap.size, 0, none⟩ = some (.string kd) := by rw [Lib.cell_of_heap HB.out]; rfl
  have c1' : W.cell? ⟨w.heap.size, 1, none⟩ = some (.int .i64 s.x) := by rw [Lib.cell_of_heap HB.out]; rfl
  have c2' : W.cell? ⟨w.heap.size, 2, none⟩ = some (.int .i64 s.y) := by rw [Lib.cell_of_heap HB.out]; rfl
  have c3' : W.cell? ⟨w.heap.size, 3, none⟩ = some (.slice aa na ac) := by rw [Lib.cell_of_heap HB.out]; rfl
  replace q1 := cell_keep hBW q1
  replace q2 := cell_keep hBW q2
  have HBW : Hid (Below w.heap.size w W) := hBW
  have HKD : Hid (kd.toList = s.kind) := hkd
  have HXL : Hid (s.x = (X : Int) ∧ X < L.length) := ⟨hX, by omega⟩
  have HYL : Hid (s.kind = kLoad → ∃ Y : Nat, s.y = (Y : Int) ∧ Y < L.length) := fun e => by
    obtain ⟨Y, h1, h2⟩ := hy (Or.inl e)
    exact ⟨Y, h1, by omega⟩
  rw [← hna]
  clear hX hy hna hkd hl hXn hargs q3 q4 q5 hBW
  obtain ⟨D, hD⟩ : ∃ D, D = idleL P L s := ⟨_, rfl⟩
  rw [← hD]
  have HD : Hid (D = idleL P L s) := hD
  clear hD
  rcases hk with ⟨hK, g1, g2, g3⟩ | ⟨hK, g1, g2, g3⟩ | ⟨hK, g1, g2, g3⟩ | ⟨hK, g1, g2, g3⟩
  · have hkl : s.kind = kLoad := by rw [← HKD.out]; exact hK
    obtain ⟨Y, hY, hYL⟩ := HYL.out hkl
    have HE : Hid (D = decide ((ptrL L (Y : Int)).length = 0)) := by
      show D = _
      rw [HD.out]; unfold idleL; rw [if_pos hkl, hY]
    have KY := KP.out Y hYL
    have KY2 : Hid _ := KY
    rw [hY] at c2' hW ⊢
    clear KY hY hK hkl KP
    go_enter Tryz.func125, Tryz.ntmps125
    go_upto_region 1 with fail
    rw [← hW]
    clear hW
    go_wp2_with fail
    refine Calls.mono KY2.out ?_
    rintro e w7 ⟨xa, xc, rfl, hi7, hb7⟩
    have HBF : Hid (Below w.heap.size w w7) := HBW.out.trans (hb7.mono HBW.out.size)
    obtain ⟨m, hm⟩ : ∃ m, m = (ptrL L (Y : Int)).length := ⟨_, rfl⟩
    rw [← hm] at HE ⊢
    clear hm hi7 hb7 KY2
    go_wp2_with fail
    go_ret
    exact ⟨by rw [HE.out, ← int_zero]; rfl, HBF.out⟩
  · have hkc : s.kind = kCall := by rw [← HKD.out]; exact hK
    have HE : Hid (D = decide ((calledL P L s).length = 0)) := by
      show D = _
      rw [HD.out]; unfold idleL; rw [if_neg (by rw [hkc]; decide), if_neg (by rw [hkc]; decide), if_pos hkc]
    have KC1 := KC.out hkc
    have KC2 : Hid _ := KC1
    clear KC1 hK hkc KP KC
    obtain ⟨sx, hsx⟩ : ∃ z, z = s.x := ⟨_, rfl⟩
    obtain ⟨sy, hsy⟩ : ∃ z, z = s.y := ⟨_, rfl⟩
    rw [← hsx] at KC2 c1' hW ⊢
    rw [← hsy] at KC2 c2' hW ⊢
    clear hsx hsy
    go_enter Tryz.func125, Tryz.ntmps125
    go_upto_region 1 with fail
    rw [← hW]
    clear hW
    go_wp2_with fail
    refine Calls.mono KC2.out ?_
    rintro e w7 ⟨xa, xc, rfl, hi7, hb7⟩
    have HBF : Hid (Below w.heap.size w w7) := HBW.out.trans (hb7.mono HBW.out.size)
    obtain ⟨m, hm⟩ : ∃ m, m = (calledL P L s).length := ⟨_, rfl⟩
    rw [← hm] at HE ⊢
    clear hm hi7 hb7 KC2
    go_wp2_with fail
    go_ret
    exact ⟨by rw [HE.out, ← int_zero]; rfl, HBF.out⟩
  · have hks : s.kind = kStore := by rw [← HKD.out]; exact hK
    have HE : Hid (D = decide ((ptrL L (X : Int)).length = 0)) := by
      show D = _
      rw [HD.out]; unfold idleL; rw [if_neg (by rw [hks]; decide), if_pos hks, HXL.out.1]
    have KY := KP.out X HXL.out.2
    have KY2 : Hid _ := KY
    have hX := HXL.out.1
    rw [hX] at c1' hW ⊢
    clear KY hX hK hks KP
    go_enter Tryz.func125, Tryz.ntmps125
    go_upto_region 1 with fail
    rw [← hW]
    clear hW
    go_wp2_with fail
    refine Calls.mono KY2.out ?_
    rintro e w7 ⟨xa, xc, rfl, hi7, hb7⟩
    have HBF : Hid (Below w.heap.size w w7) := HBW.out.trans (hb7.mono HBW.out.size)
    obtain ⟨m, hm⟩ : ∃ m, m = (ptrL L (X : Int)).length := ⟨_, rfl⟩
    rw [← hm] at HE ⊢
    clear hm hi7 hb7 KY2
    go_wp2_with fail
    go_ret
    exact ⟨by rw [HE.out, ← int_zero]; rfl, HBF.out⟩
  · have HE : Hid (D = false) := by
      show D = _
      rw [HD.out]; unfold idleL; rw [if_neg (fun e => hK.1 (by rw [HKD.out]; exact e)), if_neg (fun e => hK.2.2 (by rw [HKD.out]; exact e)), if_neg (fun e => hK.2.1 (by rw [HKD.out]; exact e))]
    clear hK KP KC
    go_enter Tryz.func125, Tryz.ntmps125
    go_upto_region 1 with fail
    rw [← hW]
    clear hW
    go_wp2_with fail
    go_ret
    exact ⟨by rw [HE.out]; rfl, HBW.out⟩
end Go.Proofs.YteekjigaicmohaaGreatDoor

/-
  Package calls: Idle, by a contract.
-/
namespace Go.Proofs.YteekjigaicmohaaGreatDoor
open Go.RowKit Go.Extern.Stop Go.Stop Go.Extern

/-- Of the first k numbers those that p holds of. -/
def pickK (p : Nat → Bool) (k : Nat) : List Int := ((List.range k).filter p).map fun i : Nat => (i : Int)
theorem pick_yes {p : Nat → Bool} {k : Nat} (h : p k = true) : pickK p (k + 1) = pickK p k ++ [(k : Int)] := by
  unfold pickK
  rw [List.range_succ, List.filter_append, List.map_append]
  simp [h]
theorem pick_no {p : Nat → Bool} {k : Nat} (h : p k = false) : pickK p (k + 1) = pickK p k := by
  unfold pickK
  rw [List.range_succ, List.filter_append, List.map_append]
  simp [h]
theorem pick_len (p : Nat → Bool) (k : Nat) : (pickK p k).length ≤ k := by
  unfold pickK
  rw [List.length_map]
  exact Nat.le_trans (List.length_filter_le _ _) (by simp)
/-- Is statement k idle, by an answer? -/
def idK (P : ProgD) (L : List (List Int)) (k : Nat) : Bool := idleL P L (P.stmts.getD k default)
/-- What Idle tells. -/
def IdlePost (a : Nat → Addr) (P : ProgD) (w w' : World) (e : Ending) : Prop :=
  ∃ wa wn wc ev, e = .returned (.tuple #[.slice wa wn wc, ev]) ∧ ((checkE P = none ∧ ev = .nilIface ∧ ∃ L, LeastL P L ∧ IsInts w' (.slice wa wn wc) (pickK (idK P L) P.stmts.length)) ∨
    ((checkE P).isNone = false ∧ Value.slice wa wn wc = .slice none 0 0 ∧ (∃ t x, ev = .iface t (.pointer (some x))) ∧ ErrV w' a (checkE P) ev)) ∧ Below w.heap.size w w'
set_option maxRecDepth 100000 in
set_option maxHeartbeats 16000000 in
theorem idle_any (a : Nat → Addr) (P : ProgD) (v1 v2 v3 : Value) (w : World) (hS : SmallP P) (h : IsProg w v1 v2 v3 P) (hE : Errs5 w a) (h3 : Three w a) :
    Calls Tryz.prog 32 #[.agg #[v1, v2, v3]] w fun e w' => IdlePost a P w w' e := by
  have H : Hid (IsProg w v1 v2 v3 P ∧ Errs5 w a ∧ SmallP P ∧ Three w a) := ⟨h, hE, hS, h3⟩
  obtain ⟨⟨a1, c1, rfl, -, -⟩, ⟨a2, c2, rfl, -, -⟩, ⟨a3, c3, rfl, -, -⟩⟩ := h
  obtain ⟨n1, hn1⟩ : ∃ m, m = P.vars.length := ⟨_, rfl⟩
  obtain ⟨n2, hn2⟩ : ∃ m, m = P.funs.length := ⟨_, rfl⟩
  obtain ⟨n3, hn3⟩ : ∃ m, m = P.stmts.length := ⟨_, rfl⟩
  have HN3 : Hid (n3 = P.stmts.length) := hn3
  rw [← hn1, ← hn2, ← hn3] at H ⊢
  obtain ⟨W, hW⟩ : ∃ W, W = w.alloc (.cells #[.slice a1 n1 c1, .slice a2 n2 c2, .slice a3 n3 c3] 26) := ⟨_, rfl⟩
  have hBW : Below w.heap.size w W := by rw [hW]; exact below1 w _
  have HX : Hid (Box3 W w.heap.size (.slice a1 n1 c1) (.slice a2 n2 c2) (.slice a3 n3 c3)) := by show Box3 _ _ _ _ _; rw [hW]; exact box3_new w _ _ _ _
  have KL : Hid _ := leastY_any a P (.slice a1 n1 c1) (.slice a2 n2 c2) (.slice a3 n3 c3) W hS (H.out.1.below hBW) (H.out.2.1.below hBW) (H.out.2.2.2.below hBW)
  obtain ⟨p0, p1, p2⟩ := HX.out
  clear hn1 hn2 hn3 hE hS h3
  go_enter Tryz.func32, Tryz.ntmps32
  go_upto_region 1 with fail
  rw [← hW]
  clear hW
  go_wp2_with fail
  refine Calls.mono KL.out ?_
  rintro e w1 ⟨va, vn, vc, ev, kk, rfl, hcs, hB1⟩
  have hB1w : Below w.heap.size w w1 := hBW.trans (hB1.mono hBW.size)
  replace p0 := cell_keep hB1 p0
  replace p1 := cell_keep hB1 p1
  replace p2 := cell_keep hB1 p2
  clear KL hBW
  rcases hcs with ⟨hck, rfl, L, hL, rfl, hi⟩ | ⟨hcb, hnil, ⟨t, p, rfl⟩, hev⟩
  case inr =>
    injection hnil with q1 q2 q3
    subst q1 q2 q3
    have HR : Hid ((checkE P).isNone = false ∧ ErrV w1 a (checkE P) (.iface t (.pointer (some p))) ∧ Below w.heap.size w w1) := ⟨hcb, hev, hB1w⟩
    clear hcb hev hB1w hB1
    go_wp2_with fail
    go_ret2
    exact ⟨none, 0, 0, _, rfl, Or.inr ⟨HR.out.1, rfl, ⟨_, _, rfl⟩, HR.out.2.1⟩, HR.out.2.2⟩
  case inl =>
    obtain ⟨n, hn⟩ : ∃ n, n = L.length := ⟨_, rfl⟩
    rw [← hn] at hi ⊢
    have HL : Hid (checkE P = none ∧ LeastL P L ∧ IsSets w1 (.slice va n vc) L ∧ Good P L) := ⟨hck, hL, hi, hL.good hck⟩
    have hBox := HX.out.below hB1
    clear hck hL hn hi
    go_wp2_with fail
    refine (isIdle_any a1 a2 a3 n1 n2 n3 c1 c2 c3 va n vc w1).mono ?_
    rintro e w5 ⟨b5, b6, rfl, hA, hb5⟩
    have HB5 : Hid (Below w.heap.size w w5 ∧ Asks w5 b5 b6 (.slice va n vc) (.slice a1 n1 c1) (.slice a2 n2 c2) (.slice a3 n3 c3)) := ⟨hB1w.trans (hb5.mono hB1w.size), hA⟩
    obtain ⟨p0, p1, p2⟩ := hBox.below hb5
    have HK : Hid (∀ wx k, Below w5.heap.size w5 wx → k < n3 → ∃ sb so kd sx sy aa na ac, a3 = some ⟨sb, so, none⟩ ∧ wx.cell? ⟨sb, so + k * 4, none⟩ = some (.string kd) ∧ wx.cell? ⟨sb, so + k * 4 + 1, none⟩ = some (.int .i64 sx) ∧ wx.cell? ⟨sb, so + k * 4 + 2, none⟩ = some (.int .i64 sy) ∧ wx.cell? ⟨sb, so + k * 4 + 3, none⟩ = some (.slice aa na ac) ∧
        ∀ wy, Below w5.heap.size w5 wy → Calls Tryz.prog 125 #[.agg #[.string kd, .int .i64 sx, .int .i64 sy, .slice aa na ac], .pointer (some ⟨b5, 0, none⟩), .pointer (some ⟨b6, 0, none⟩)] wy fun e w' => e = .returned (.bool (idK P L k)) ∧ Below wy.heap.size wy w') := fun wx k hb hk => by
      have hkS : k < P.stmts.length := by rw [← HN3.out]; exact hk
      obtain ⟨a3', c3', e3, -, hst⟩ := (H.out.1.below HB5.out.1).stmts
      injection e3 with q1 q2 q3
      obtain ⟨sb, so, hs3, pv, s0, s1, s2, s3, ⟨-, aa, ac, rfl, -⟩⟩ := hst k hkS
      refine ⟨sb, so, _, _, _, aa, _, ac, by rw [q1, hs3], cell_keep hb s0, cell_keep hb s1, cell_keep hb s2, cell_keep hb s3, fun wy hby => ?_⟩
      refine (idle1_any P L HL.out.2.2.2 _ (mem_getDY _ hkS) _ (S_toList _) aa ac b5 b6 va n vc _ _ _ wy (HB5.out.2.below hby) ((HL.out.2.2.1.below hb5).below hby) (((H.out.1.below HB5.out.1).funs).below hby)).mono ?_
      rintro e w' ⟨rfl, h2⟩
      exact ⟨rfl, h2⟩
    have hn3 : n3 ≤ 80 := by rw [HN3.out]; exact HL.out.2.2.2.len.2.2.2.2
    clear hA hBox hb5 hB1w hB1
    go_wp2_with fail
    clear p0 p1 p2
    go_loopw [8, 26] (fun u t wr => ∃ k : Nat, k ≤ n3 ∧ t = .int .i64 k ∧ wr.ownsRow w5.heap.size 3 1 u (pickK (idK P L) k).length ((pickK (idK P L) k).map intV) ∧ Below w5.heap.size w5 wr) (fun _ t _ => (n3 - intOf t).toNat)
    case atStart => exact ⟨0, Nat.zero_le _, rfl, World.ownsRow_nil _ _ _ _, Below.refl _ _⟩
    case round =>
      obtain ⟨k, hk, rfl, ho, hB⟩ := hrel
      have HO : Hid (wr.ownsRow w5.heap.size 3 1 u8 (pickK (idK P L) k).length ((pickK (idK P L) k).map intV)) := ho
      have hlen := pick_len (idK P L) k
      clear ho
      by_cases hlt : k < n3
      · obtain ⟨sb, so, kd, sx, sy, aa, na, ac, rfl, e0, e1, e2, e3, HC⟩ := HK.out wr k hB hlt
        have HC' : Hid _ := HC
        obtain ⟨D, hD⟩ : ∃ D, D = idK P L k := ⟨_, rfl⟩
        have HD : Hid (D = idK P L k) := hD
        rw [← hD] at HC'
        have hki : (k : Int) < n3 := by omega
        clear HC hD
        have hBa : Below w5.heap.size w5 (wr.alloc (stmBox kd sx sy (.slice aa na ac))) := hB.alloc hB.size _
        go_wp2_with fail
        refine (HC'.out _ hBa).mono ?_
        rintro e w7 ⟨rfl, hb7⟩
        have hB7 : Below w5.heap.size w5 w7 := hBa.trans (hb7.mono hBa.size)
        have HO7 : Hid (w7.ownsRow w5.heap.size 3 1 u8 (pickK (idK P L) k).length ((pickK (idK P L) k).map intV)) := owns_below (HO.out.alloc _) hb7
        clear HC' hb7 hBa e0 e1 e2 e3
        cases D with
        | true =>
          obtain ⟨v', w8, hr, ho3, hb8⟩ := append_int w7 w5.heap.size u8 _ HO7.out hB7.size (by omega) (k : Int) 40
          have HX8 : Hid (w8.ownsRow w5.heap.size 3 1 v' (pickK (idK P L) (k + 1)).length ((pickK (idK P L) (k + 1)).map intV) ∧ Below w5.heap.size w5 w8) := by
            refine ⟨?_, hB7.trans hb8⟩
            rw [pick_yes HD.out.symm]
            exact ho3
          clear ho3 hb8 hlen
          go_wp2_with (at_builtin; refine Lib.wpList_append_run _ rfl _ _ _ _ rfl _ _ rfl rfl _ _ hr ?_)
          go_roundw
          case rel => exact ⟨k + 1, hlt, by go_num, HX8.out.1, HX8.out.2⟩
          case measure => simp [intOf]; omega
        | false =>
          have HX8 : Hid (w7.ownsRow w5.heap.size 3 1 u8 (pickK (idK P L) (k + 1)).length ((pickK (idK P L) (k + 1)).map intV)) := by
            show World.ownsRow _ _ _ _ _ _ _
            rw [pick_no HD.out.symm]
            exact HO7.out
          clear hlen
          go_wp2_with fail
          go_roundw
          case rel => exact ⟨k + 1, hlt, by go_num, HX8.out, hB7⟩
          case measure => simp [intOf]; omega
      · go_wp2_with fail
        go_ret2
        have hkn : k = P.stmts.length := by rw [← HN3.out]; omega
        have h1 := HO.out
        rw [hkn] at h1
        obtain ⟨ya, yc, rfl⟩ := owns_form h1
        exact ⟨ya, _, yc, .nilIface, rfl, Or.inl ⟨HL.out.1, rfl, L, HL.out.2.1, (isCap_of_owns h1).1⟩, HB5.out.1.trans (hB.mono HB5.out.1.size)⟩
end Go.Proofs.YteekjigaicmohaaGreatDoor

/-
  Package calls: Writes, by a contract.
-/
namespace Go.Proofs.YteekjigaicmohaaGreatDoor
open Go.RowKit Go.Extern.Stop Go.Stop Go.Extern

theorem inB_of {zs : List Int} (h : ∀ x ∈ zs, 0 ≤ x ∧ x < 1000) : InB zs := fun j hj => h _ (by simp [List.getD, hj])
theorem ptr_in {P : ProgD} {L : List (List Int)} (h : Good P L) {X : Nat} (hX : X < L.length) : ∀ o ∈ ptrL L (X : Int), 0 ≤ o ∧ o < (L.length : Int) := fun o ho => by
  obtain ⟨h1, h2⟩ := List.mem_filter.1 ho
  have hsa : setAt L (X : Int) = L.getD X [] := by unfold setAt; rw [Int.toNat_natCast]
  rw [hsa] at h1
  rw [decide_eq_true_iff] at h2
  exact ⟨((h.row X hX).2 o h1).1, h2⟩
theorem changed_in {P : ProgD} {L : List (List Int)} (h : Good P L) {s : StmtD} (hs : s ∈ P.stmts) : (∀ x ∈ changedL P L s, 0 ≤ x ∧ x < (L.length : Int)) ∧ (changedL P L s).length ≤ 10000 := by
  have hl := h.len
  obtain ⟨⟨X, hX, hXn⟩, -, -⟩ := h.stm hs
  unfold changedL
  by_cases h1 : s.kind = kStore
  · rw [if_pos h1, hX]
    refine ⟨ptr_in h (by omega), ?_⟩
    have hsa : setAt L (X : Int) = L.getD X [] := by unfold setAt; rw [Int.toNat_natCast]
    have := (h.row X (by omega)).1
    have h2 : (ptrL L (X : Int)).length ≤ (setAt L (X : Int)).length := List.length_filter_le _ _
    rw [hsa] at h2
    omega
  · rw [if_neg h1]
    by_cases h2 : s.kind = kCall
    · rw [if_pos h2]
      obtain ⟨hc1, hc2⟩ := called_in h hs
      unfold callingL
      by_cases h3 : calledL P L s = []
      · rw [if_pos h3]; exact ⟨fun x hx => (by cases hx), Nat.zero_le _⟩
      · rw [if_neg h3]
        have hp : ∀ f ∈ calledL P L s, (P.funs.getD f.toNat default) ∈ P.funs := fun f hf => by
          have := hc1 f hf
          have hil : f.toNat < P.funs.length := by omega
          simp [List.getD, hil]
        constructor
        · intro x hx
          rcases List.mem_cons.1 hx with e | hx
          · rw [e, hX]; omega
          · obtain ⟨f, hf, hx⟩ := List.mem_flatMap.1 hx
            have := varB_parts ((List.all_eq_true.1 ((right_of h.right).fp _ (hp f hf)).1) x hx)
            omega
        · have := flat_len (calledL P L s) (fun f => (P.funs.getD f.toNat default).params) 3 (fun f hf => right_params3 h.right _ (hp f hf))
          simp only [List.length_cons]
          omega
    · rw [if_neg h2]
      refine ⟨fun x hx => ?_, by simp⟩
      rw [List.mem_singleton.1 hx, hX]
      omega
/-- What Writes tells. -/
def WritesPost (a : Nat → Addr) (P : ProgD) (k : Int) (w w' : World) (e : Ending) : Prop :=
  ∃ wa wn wc ev, e = .returned (.tuple #[.slice wa wn wc, ev]) ∧ ((checkE P = none ∧ ∃ L, LeastL P L ∧ ((∃ K : Nat, k = (K : Int) ∧ K < P.stmts.length ∧ ev = .nilIface ∧ IsInts w' (.slice wa wn wc) (norm (changedL P L (P.stmts.getD K default)))) ∨ (inL P.stmts.length k = false ∧ Value.slice wa wn wc = .slice none 0 0 ∧ ev = errB a))) ∨
    ((checkE P).isNone = false ∧ Value.slice wa wn wc = .slice none 0 0 ∧ (∃ t x, ev = .iface t (.pointer (some x))) ∧ ErrV w' a (checkE P) ev)) ∧ Below w.heap.size w w'
set_option maxRecDepth 100000 in
set_option maxHeartbeats 16000000 in
theorem writes_any (a : Nat → Addr) (P : ProgD) (v1 v2 v3 : Value) (k : Int) (w : World) (hS : SmallP P) (h : IsProg w v1 v2 v3 P) (hE : Errs5 w a) (h3 : Three w a) :
    Calls Tryz.prog 31 #[.agg #[v1, v2, v3], .int .i64 k] w fun e w' => WritesPost a P k w w' e := by
  have H : Hid (IsProg w v1 v2 v3 P ∧ Errs5 w a ∧ SmallP P ∧ Three w a) := ⟨h, hE, hS, h3⟩
  obtain ⟨⟨a1, c1, rfl, -, -⟩, ⟨a2, c2, rfl, -, -⟩, ⟨a3, c3, rfl, -, -⟩⟩ := h
  obtain ⟨n1, hn1⟩ : ∃ m, m = P.vars.length := ⟨_, rfl⟩
  obtain ⟨n2, hn2⟩ : ∃ m, m = P.funs.length := ⟨_, rfl⟩
  obtain ⟨n3, hn3⟩ : ∃ m, m = P.stmts.length := ⟨_, rfl⟩
  have HN3 : Hid (n3 = P.stmts.length) := hn3
  rw [← hn1, ← hn2, ← hn3] at H ⊢
  obtain ⟨W, hW⟩ : ∃ W, W = w.alloc (.cells #[.slice a1 n1 c1, .slice a2 n2 c2, .slice a3 n3 c3] 26) := ⟨_, rfl⟩
  have hBW : Below w.heap.size w W := by rw [hW]; exact below1 w _
  have HX : Hid (Box3 W w.heap.size (.slice a1 n1 c1) (.slice a2 n2 c2) (.slice a3 n3 c3)) := by show Box3 _ _ _ _ _; rw [hW]; exact box3_new w _ _ _ _
  have KL : Hid _ := leastY_any a P (.slice a1 n1 c1) (.slice a2 n2 c2) (.slice a3 n3 c3) W hS (H.out.1.below hBW) (H.out.2.1.below hBW) (H.out.2.2.2.below hBW)
  obtain ⟨p0, p1, p2⟩ := HX.out
  clear hn1 hn2 hn3 hE hS h3
  go_enter Tryz.func31, Tryz.ntmps31
  go_upto_region 1 with fail
  rw [← hW]
  clear hW
  go_wp2_with fail
  refine Calls.mono KL.out ?_
  rintro e w1 ⟨va, vn, vc, ev, kk, rfl, hcs, hB1⟩
  have hB1w : Below w.heap.size w w1 := hBW.trans (hB1.mono hBW.size)
  replace p0 := cell_keep hB1 p0
  replace p1 := cell_keep hB1 p1
  replace p2 := cell_keep hB1 p2
  clear KL hBW
  rcases hcs with ⟨hck, rfl, L, hL, rfl, hi⟩ | ⟨hcb, hnil, ⟨t, p, rfl⟩, hev⟩
  case inr =>
    injection hnil with q1 q2 q3
    subst q1 q2 q3
    have HR : Hid ((checkE P).isNone = false ∧ ErrV w1 a (checkE P) (.iface t (.pointer (some p))) ∧ Below w.heap.size w w1) := ⟨hcb, hev, hB1w⟩
    clear hcb hev hB1w hB1
    go_wp2_with fail
    go_ret2
    exact ⟨none, 0, 0, _, rfl, Or.inr ⟨HR.out.1, rfl, ⟨_, _, rfl⟩, HR.out.2.1⟩, HR.out.2.2⟩
  case inl =>
    obtain ⟨n, hn⟩ : ∃ n, n = L.length := ⟨_, rfl⟩
    rw [← hn] at hi ⊢
    have HL : Hid (checkE P = none ∧ LeastL P L ∧ n = L.length ∧ IsSets w1 (.slice va n vc) L ∧ Good P L) := ⟨hck, hL, hn, hi, hL.good hck⟩
    have hE1 := (H.out.2.1.below hB1w).c1
    have HB1 : Hid (Below w.heap.size w w1 ∧ Box3 w1 w.heap.size (.slice a1 n1 c1) (.slice a2 n2 c2) (.slice a3 n3 c3)) := ⟨hB1w, HX.out.below hB1⟩
    clear hck hL hn hi hB1
    obtain ⟨D, hD⟩ : ∃ D, D = inL n3 k := ⟨_, rfl⟩
    have K1 := isOf2_any a3 n3 c3 k w1
    rw [← hD] at K1
    have HD : Hid (D = inL n3 k) := hD
    have HK : Hid (Calls Tryz.prog 73 #[.slice a3 n3 c3, .int .i64 k] w1 fun e w' => e = .returned (.bool D) ∧ w' = w1) := K1
    clear K1 hD
    cases D with
    | false =>
      go_wp2_with fail
      refine HK.out.mono ?_
      rintro e w2 ⟨rfl, rfl⟩
      go_upto_region 5 with fail
      go_quiet (fail)
      go_wp2_with fail
      go_ret2
      exact ⟨none, 0, 0, _, rfl, Or.inl ⟨HL.out.1, L, HL.out.2.1, Or.inr ⟨by rw [← HN3.out]; exact HD.out.symm, rfl, rfl⟩⟩, below_drewN hB1w _⟩
    | true =>
      obtain ⟨K, hKe, hKn⟩ := inL_nat HD.out.symm
      subst hKe
      clear hE1
      have hKs : K < P.stmts.length := by rw [← HN3.out]; exact hKn
      obtain ⟨s, hse⟩ : ∃ s, s = P.stmts.getD K default := ⟨_, rfl⟩
      have hsm : s ∈ P.stmts := by rw [hse]; exact getDmC hKs
      obtain ⟨a3', c3', e3, -, hst⟩ := (H.out.1.below hB1w).stmts
      injection e3 with q1 q2 q3
      subst q1 q3
      clear q2
      obtain ⟨sb, so, rfl, pv, s0, s1, s2, s3, ⟨-, aa, ac, rfl, -⟩⟩ := hst K hKs
      rw [← hse] at s0 s1 s2 s3
      have hin := changed_in HL.out.2.2.2.2 hsm
      have hln := HL.out.2.2.2.2.len
      have KD : Hid (∀ wx b5 b6 pb, Below w1.heap.size w1 wx → Asks wx b5 b6 (.slice va n vc) (.slice a1 n1 c1) (.slice a2 n2 c2) (.slice (some ⟨sb, so, none⟩) n3 c3) → Box3 wx pb (.slice a1 n1 c1) (.slice a2 n2 c2) (.slice (some ⟨sb, so, none⟩) n3 c3) → Calls Tryz.prog 121 #[.agg #[.string (S s.kind), .int .i64 s.x, .int .i64 s.y, .slice aa s.args.length ac], .pointer (some ⟨b5, 0, none⟩), .pointer (some ⟨pb, 0, none⟩), .pointer (some ⟨b6, 0, none⟩)] wx fun e w' => ∃ xa xc, e = .returned (.slice xa (changedL P L s).length xc) ∧ IsInts w' (.slice xa (changedL P L s).length xc) (changedL P L s) ∧ Below w1.heap.size w1 w') := fun wx b5 b6 pb hb hA hbx => by
        refine (changed1_any P L HL.out.2.2.2.2 s hsm (S s.kind) (S_toList _) aa ac b5 b6 pb va n vc _ _ _ _ _ _ _ _ _ wx hA hbx (HL.out.2.2.2.1.below hb) (((H.out.1.below hB1w).funs).below hb)).mono ?_
        rintro e w' ⟨xa, xc, rfl, h1, h2⟩
        exact ⟨xa, xc, rfl, h1, hb.trans (h2.mono hb.size)⟩
      obtain ⟨kd, hkd⟩ : ∃ z, z = S s.kind := ⟨_, rfl⟩
      obtain ⟨sx, hsx⟩ : ∃ z, z = s.x := ⟨_, rfl⟩
      obtain ⟨sy, hsy⟩ : ∃ z, z = s.y := ⟨_, rfl⟩
      obtain ⟨na, hna⟩ : ∃ z, z = s.args.length := ⟨_, rfl⟩
      obtain ⟨zs, hzs⟩ : ∃ z, z = changedL P L s := ⟨_, rfl⟩
      rw [← hkd] at s0 KD
      rw [← hsx] at s1 KD
      rw [← hsy] at s2 KD
      rw [← hna] at s3 KD
      rw [← hzs] at KD hin
      have HZ : Hid (InB zs ∧ zs.length ≤ 1000000 ∧ zs = changedL P L (P.stmts.getD K default) ∧ K < P.stmts.length) := ⟨inB_of fun x hx => by have := hin.1 x hx; omega, by omega, by rw [hzs, hse], hKs⟩
      have HXS : Hid (∀ wx, Below w1.heap.size w1 wx → wx.cell? ⟨sb, so + K * 4, none⟩ = some (.string kd) ∧ wx.cell? ⟨sb, so + K * 4 + 1, none⟩ = some (.int .i64 sx) ∧ wx.cell? ⟨sb, so + K * 4 + 2, none⟩ = some (.int .i64 sy) ∧ wx.cell? ⟨sb, so + K * 4 + 3, none⟩ = some (.slice aa na ac) ∧ Box3 wx w.heap.size (.slice a1 n1 c1) (.slice a2 n2 c2) (.slice (some ⟨sb, so, none⟩) n3 c3)) := fun wx hb =>
        ⟨cell_keep hb s0, cell_keep hb s1, cell_keep hb s2, cell_keep hb s3, HB1.out.2.below hb⟩
      have hKi : (K : Int) < n3 := by omega
      clear hst hin hln hkd hsx hsy hna hzs hse hsm hKs s0 s1 s2 s3 HD hKn
      go_wp2_with fail
      refine HK.out.mono ?_
      rintro e w2 ⟨rfl, rfl⟩
      go_wp2_with fail
      refine (changedBy_any a1 a2 (some ⟨sb, so, none⟩) n1 n2 n3 c1 c2 c3 va n vc w2).mono ?_
      rintro e w5 ⟨b5, b6, pb, rfl, hA, hbx, hb5⟩
      have KD5 : Hid _ := KD.out w5 b5 b6 pb hb5 hA hbx
      obtain ⟨t0, t1, t2, t3, x0, x1, x2⟩ := HXS.out w5 hb5
      clear hA hbx p0 p1 p2
      go_wp2_with fail
      refine Calls.mono KD5.out ?_
      rintro e w6 ⟨xa, xc, rfl, hi6, hb6⟩
      clear KD5 t0 t1 t2 t3 x0 x1 x2
      have K7 : Hid _ := of_ok zs _ w6 HZ.out.2.1 hi6 HZ.out.1
      clear hi6
      go_wp2_with fail
      refine Calls.mono K7.out ?_
      rintro e w7 ⟨v', rfl, hi7, hb7⟩
      obtain ⟨ya, yc, rfl⟩ := isInts_form hi7
      have HR : Hid (IsInts w7 (.slice ya (norm zs).length yc) (norm zs) ∧ Below w.heap.size w w7) := ⟨hi7, (hB1w.trans (hb6.mono hB1w.size)).trans (hb7.mono (hB1w.trans (hb6.mono hB1w.size)).size)⟩
      clear K7 hi7 hb7 hb6 hb5
      go_wp2_with fail
      go_ret2
      exact ⟨ya, _, yc, .nilIface, rfl, Or.inl ⟨HL.out.1, L, HL.out.2.1, Or.inl ⟨K, rfl, HZ.out.2.2.2, rfl, by rw [← HZ.out.2.2.1]; exact HR.out.1⟩⟩, HR.out.2⟩
end Go.Proofs.YteekjigaicmohaaGreatDoor

/-
  What a statement changes is one of what Writes tells; what is idle changes nothing: plain.
-/
namespace Go.Proofs.YteekjigaicmohaaGreatDoor
open Go.RowKit Go.Extern.Stop Go.Stop Go.Extern

theorem calledL_mem {P : ProgD} {L : List (List Int)} {k : Nat} {f : Nat} (h : f ∈ calledD P L k) : (f : Int) ∈ calledL P L (P.stmts.getD k default) := by
  unfold calledD at h
  unfold calledL
  by_cases hk : (P.stmts.getD k default).kind = kCall
  · rw [if_pos hk] at h ⊢
    obtain ⟨h1, h2⟩ := List.mem_filter.1 h
    rw [Bool.and_eq_true, decide_eq_true_iff, List.contains_iff_mem] at h2
    refine List.mem_filter.2 ⟨List.mem_map.2 ⟨_, h2.1, by omega⟩, ?_⟩
    rw [fits_iff f rfl]
    exact decide_eq_true h2.2
  · rw [if_neg hk] at h; cases h
theorem called_nil {P : ProgD} {L : List (List Int)} (hG : Good P L) {k : Nat} (hk : k < P.stmts.length) (h : calledL P L (P.stmts.getD k default) ≠ []) : (calledD P L k).isEmpty = false := by
  obtain ⟨f, hf⟩ := List.exists_mem_of_ne_nil _ h
  have hfin := (called_in hG (mem_getDY default hk)).1 f hf
  have hm : f.toNat ∈ calledD P L k := by
    unfold calledL at hf
    unfold calledD
    by_cases hkc : (P.stmts.getD k default).kind = kCall
    · rw [if_pos hkc] at hf ⊢
      obtain ⟨h1, h2⟩ := List.mem_filter.1 hf
      obtain ⟨o, ho, hoe⟩ := List.mem_map.1 h1
      refine List.mem_filter.2 ⟨List.mem_range.2 (by omega), ?_⟩
      rw [Bool.and_eq_true, List.contains_iff_mem]
      refine ⟨?_, ?_⟩
      · rw [show ((L.length : Nat) : Int) + ((f.toNat : Nat) : Int) = o by omega]
        exact ho
      · unfold fitsB at h2
        rw [Bool.and_eq_true] at h2
        exact h2.2
    · rw [if_neg hkc] at hf; cases hf
  cases e : calledD P L k with
  | nil => rw [e] at hm; cases hm
  | cons a b => rfl
theorem writes_mem {P : ProgD} {L : List (List Int)} {k : Nat} {x : Int} (h : x ∈ writesL P L k) : x ∈ changedL P L (P.stmts.getD k default) := by
  unfold writesL at h
  unfold changedL
  by_cases h1 : (P.stmts.getD k default).kind = kStore
  · rw [if_pos h1] at h ⊢
    exact h
  · rw [if_neg h1] at h ⊢
    by_cases h2 : (P.stmts.getD k default).kind = kCall
    · rw [if_pos h2] at h ⊢
      cases he : (calledD P L k).isEmpty with
      | true => rw [he, if_pos rfl] at h; cases h
      | false =>
        rw [he, if_neg (by decide)] at h
        unfold callingL
        rw [if_neg (fun q => by
          cases hc : calledD P L k with
          | nil => rw [hc] at he; cases he
          | cons a b =>
            have := calledL_mem (P := P) (L := L) (k := k) (f := a) (by rw [hc]; exact List.mem_cons_self)
            rw [q] at this; cases this)]
        rcases List.mem_append.1 h with h | h
        · obtain ⟨f, hf, hx⟩ := List.mem_flatMap.1 h
          exact List.mem_cons_of_mem _ (List.mem_flatMap.2 ⟨(f : Int), calledL_mem hf, by rw [Int.toNat_natCast]; exact hx⟩)
        · rw [List.mem_singleton.1 h]
          exact List.mem_cons_self
    · rw [if_neg h2] at h ⊢
      exact h
theorem ptr_some {L : List (List Int)} {n : Int} (h : (setAt L n).all (fun o => !decide (o < (L.length : Int))) = false) : decide ((ptrL L n).length = 0) = false := by
  rw [decide_eq_false_iff_not]
  intro q
  rw [List.all_eq_false] at h
  obtain ⟨o, ho, hp⟩ := h
  have : o ∈ ptrL L n := List.mem_filter.2 ⟨ho, by simpa using hp⟩
  rw [List.eq_nil_of_length_eq_zero q] at this
  cases this
theorem idle_no {P : ProgD} {L : List (List Int)} {k : Nat} (h : idleB P L k = false) : idK P L k = false := by
  unfold idleB at h
  unfold idK idleL
  by_cases h1 : (P.stmts.getD k default).kind = kLoad
  · rw [if_pos h1] at h ⊢
    exact ptr_some h
  · rw [if_neg h1] at h ⊢
    by_cases h2 : (P.stmts.getD k default).kind = kStore
    · rw [if_pos h2] at h ⊢
      exact ptr_some h
    · rw [if_neg h2] at h ⊢
      by_cases h3 : (P.stmts.getD k default).kind = kCall
      · rw [if_pos h3] at h ⊢
        rw [decide_eq_false_iff_not]
        intro q
        cases hc : calledD P L k with
        | nil => rw [hc] at h; cases h
        | cons a b =>
          have := calledL_mem (P := P) (L := L) (k := k) (f := a) (by rw [hc]; exact List.mem_cons_self)
          rw [List.eq_nil_of_length_eq_zero q] at this; cases this
      · rw [if_neg h3]
theorem pick_mem (p : Nat → Bool) (n k : Nat) (h : p k = false) : (pickK p n).contains (k : Int) = false := by
  cases e : (pickK p n).contains (k : Int) with
  | false => rfl
  | true =>
    rw [List.contains_iff_mem] at e
    obtain ⟨i, hi, hik⟩ := List.mem_map.1 e
    obtain ⟨-, h2⟩ := List.mem_filter.1 hi
    have : i = k := by omega
    rw [this, h] at h2
    cases h2
/-- COOPER and KENNEDY. -/
theorem may_changes {P : ProgD} {L : List (List Int)} {s : StD} (hc : checkE P = none) (hS : SmallP P) (hL : LeastL P L) (h : Inv P L s) (k : Nat) (hk : k < P.stmts.length) (r : Ref) (hr : r.ok P.vars.length P.funs.length s.things.length)
    (hne : (stepD P s k).get r ≠ s.get r) : (norm (changedL P L (P.stmts.getD k default))).contains (objR P s.places r) = true ∧ (pickK (idK P L) P.stmts.length).contains (k : Int) = false := by
  obtain ⟨h1, h2⟩ := step_changes hc hS (hL.good hc).sets.len h k hk r hr hne
  refine ⟨?_, pick_mem _ _ _ (idle_no h2)⟩
  rw [List.contains_iff_mem, norm_mem]
  exact writes_mem h1
end Go.Proofs.YteekjigaicmohaaGreatDoor

/-
  Package cons: Of, Edges, by contracts.
-/
import Derived.Test.YtimmkenmahagjaaGreatDoorCG
namespace Go.Proofs.YtimmkenmahagjaaGreatDoor
open Go.RowKit Go.Extern.Stop Go.Stop Go.Extern

theorem keep3C {w0 w : World} {p0 p1 p2 : Addr} {v0 v1 v2 : Value} (k0 : w0.cell? p0 = some v0) (k1 : w0.cell? p1 = some v1) (k2 : w0.cell? p2 = some v2) (hb : Below w0.heap.size w0 w) : Below w0.heap.size w0 w ∧ w.cell? p0 = some v0 ∧ w.cell? p1 = some v1 ∧ w.cell? p2 = some v2 :=
  ⟨hb, cell_keep hb k0, cell_keep hb k1, cell_keep hb k2⟩
set_option maxHeartbeats 4000000 in
theorem of_any (a : Nat → Addr) (P : ProgD) (v1 v2 v3 : Value) (w : World) (hS : SmallP P) (h : IsProg w v1 v2 v3 P) (hE : Errs5 w a) :
    Calls Tryz.prog 15 #[.agg #[v1, v2, v3]] w fun e w' => ∃ v ev, e = .returned (.tuple #[v, ev]) ∧ ((checkE P = none ∧ ev = .nilIface ∧ IsRules w' v (rulesD P)) ∨ ((checkE P).isNone = false ∧ v = .slice none 0 0 ∧ ErrV w' a (checkE P) ev)) ∧ Below w.heap.size w w' := by
  have H : Hid (IsProg w v1 v2 v3 P ∧ Errs5 w a ∧ SmallP P) := ⟨h, hE, hS⟩
  obtain ⟨⟨a1, c1, rfl, -, -⟩, ⟨a2, c2, rfl, -, -⟩, ⟨a3, c3, rfl, -, -⟩⟩ := h
  obtain ⟨n1, hn1⟩ : ∃ m, m = P.vars.length := ⟨_, rfl⟩
  obtain ⟨n2, hn2⟩ : ∃ m, m = P.funs.length := ⟨_, rfl⟩
  obtain ⟨n3, hn3⟩ : ∃ m, m = P.stmts.length := ⟨_, rfl⟩
  rw [← hn1, ← hn2, ← hn3] at H ⊢
  obtain ⟨W, hW⟩ : ∃ W, W = w.alloc (.cells #[.slice a1 n1 c1, .slice a2 n2 c2, .slice a3 n3 c3] 26) := ⟨_, rfl⟩
  have hBW : Below w.heap.size w W := by rw [hW]; exact below1 w _
  have HX : Hid (Box3 W w.heap.size (.slice a1 n1 c1) (.slice a2 n2 c2) (.slice a3 n3 c3)) := by show Box3 _ _ _ _ _; rw [hW]; exact box3_new w _ _ _ _
  have KC : Hid (Calls Tryz.prog 35 #[.agg #[.slice a1 n1 c1, .slice a2 n2 c2, .slice a3 n3 c3]] W fun e w' => ∃ v', e = .returned v' ∧ ErrV w' a (checkE P) v' ∧ Below W.heap.size W w') := check_any a P _ _ _ W hS (H.out.1.below hBW) (hE.below hBW)
  rw [hW] at KC
  clear hn1 hn2 hn3 hE hS
  go_enter Tryz.func15, Tryz.ntmps15
  go_wp2_with fail
  refine KC.out.mono ?_
  rintro e w1 ⟨v', rfl, hv, hB1⟩
  rw [← hW] at hB1
  clear KC hW
  have hB1w : Below w.heap.size w w1 := hBW.trans (hB1.mono hBW.size)
  obtain ⟨p0, p1, p2⟩ := HX.out.below hB1
  rcases hv.cases with ⟨h1, rfl⟩ | ⟨h1, t, x, rfl⟩
  · have hck : checkE P = none := Option.isNone_iff_eq_none.1 h1
    have HCK : Hid (checkE P = none) := hck
    have KR : Hid (Calls Tryz.prog 44 #[.agg #[.slice a1 n1 c1, .slice a2 n2 c2, .slice a3 n3 c3]] w1 fun e w' => ∃ v, e = .returned v ∧ IsRules w' v (rulesD P) ∧ Below w1.heap.size w1 w') := rules_any a P _ _ _ w1 H.out.2.2 hck (H.out.1.below hB1w) (H.out.2.1.below hB1w)
    clear hv hck h1 hB1
    go_wp2_with fail
    refine KR.out.mono ?_
    rintro e w2 ⟨v, rfl, hr2, hB2⟩
    have HR2 : Hid (IsRules w2 v (rulesD P)) := hr2
    clear hr2
    go_wp2_with fail
    go_ret2
    exact ⟨v, _, rfl, Or.inl ⟨HCK.out, rfl, HR2.out⟩, hB1w.trans (hB2.mono hB1w.size)⟩
  · have HV : Hid ((checkE P).isNone = false ∧ ErrV w1 a (checkE P) (.iface t (.pointer (some x)))) := ⟨h1, hv⟩
    clear hv h1
    go_wp2_with fail
    go_ret2
    exact ⟨_, _, rfl, Or.inr ⟨HV.out.1, rfl, HV.out.2⟩, hB1w⟩

/-- What Edges tells. -/
def EdgesPost (a : Nat → Addr) (P : ProgD) (hs : List (List Int)) (w w' : World) (e : Ending) : Prop :=
  ∃ v ev, e = .returned (.tuple #[v, ev]) ∧ ((consE P hs = none ∧ ev = .nilIface ∧ ∃ es, IsPairs w' v es ∧ EdgeSet (foundD P hs) es) ∨ ((consE P hs).isNone = false ∧ v = .slice none 0 0 ∧ ErrV w' a (consE P hs) ev)) ∧ Below w.heap.size w w'
set_option maxRecDepth 100000 in
set_option maxHeartbeats 8000000 in
theorem edges_any (a : Nat → Addr) (P : ProgD) (v1 v2 v3 hv : Value) (hs : List (List Int)) (w : World) (hS : SmallP P) (h : IsProg w v1 v2 v3 P) (hH : IsSets w hv hs) (hE : Errs5 w a) (h3 : Three w a) (hn : hs.length ≤ 1000000) (hl : ∀ j, j < hs.length → (hs.getD j []).length ≤ 1000000) :
    Calls Tryz.prog 20 #[.agg #[v1, v2, v3], hv] w fun e w' => EdgesPost a P hs w w' e := by
  have H : Hid (IsProg w v1 v2 v3 P ∧ Errs5 w a ∧ SmallP P ∧ IsSets w hv hs) := ⟨h, hE, hS, hH⟩
  obtain ⟨⟨a1, c1, rfl, -, -⟩, ⟨a2, c2, rfl, -, -⟩, ⟨a3, c3, rfl, -, -⟩⟩ := h
  obtain ⟨ha, hc, rfl, -⟩ := hH
  obtain ⟨n1, hn1⟩ : ∃ m, m = P.vars.length := ⟨_, rfl⟩
  obtain ⟨n2, hn2⟩ : ∃ m, m = P.funs.length := ⟨_, rfl⟩
  obtain ⟨n3, hn3⟩ : ∃ m, m = P.stmts.length := ⟨_, rfl⟩
  obtain ⟨n, hnn⟩ : ∃ m, m = hs.length := ⟨_, rfl⟩
  rw [← hn1, ← hn2, ← hn3] at H ⊢
  rw [← hnn] at H ⊢
  obtain ⟨W, hW⟩ : ∃ W, W = w.alloc (.cells #[.slice a1 n1 c1, .slice a2 n2 c2, .slice a3 n3 c3] 26) := ⟨_, rfl⟩
  have hBW : Below w.heap.size w W := by rw [hW]; exact below1 w _
  have HX : Hid (Box3 W w.heap.size (.slice a1 n1 c1) (.slice a2 n2 c2) (.slice a3 n3 c3)) := by show Box3 _ _ _ _ _; rw [hW]; exact box3_new w _ _ _ _
  have KC : Hid (Calls Tryz.prog 49 #[.agg #[.slice a1 n1 c1, .slice a2 n2 c2, .slice a3 n3 c3], .slice ha n hc] W fun e w' => ∃ v', e = .returned v' ∧ ErrV w' a (consE P hs) v' ∧ Below W.heap.size W w') := checkC_any a P _ _ _ _ hs W hS (H.out.1.below hBW) (H.out.2.2.2.below hBW) (hE.below hBW) (h3.below hBW) hn hl
  rw [hW] at KC
  clear hn1 hn2 hn3 hE hS hnn hn hl h3
  go_enter Tryz.func20, Tryz.ntmps20
  go_wp2_with fail
  refine KC.out.mono ?_
  rintro e w1 ⟨v', rfl, hv, hB1⟩
  rw [← hW] at hB1
  clear KC hW
  have hB1w : Below w.heap.size w w1 := hBW.trans (hB1.mono hBW.size)
  obtain ⟨p0, p1, p2⟩ := HX.out.below hB1
  rcases hv.cases with ⟨h1, rfl⟩ | ⟨h1, t, x, rfl⟩
  · have hce : consE P hs = none := Option.isNone_iff_eq_none.1 h1
    have HCE : Hid (consE P hs = none) := hce
    obtain ⟨hck, hok⟩ := consE_ok hce
    have KR : Hid (∀ wx, Below w1.heap.size w1 wx → Calls Tryz.prog 44 #[.agg #[.slice a1 n1 c1, .slice a2 n2 c2, .slice a3 n3 c3]] wx fun e w' => ∃ ra rn rc, e = .returned (.slice ra rn rc) ∧ IsRules w' (.slice ra rn rc) (rulesD P) ∧ Below w1.heap.size w1 w') := fun wx hb => by
      have hbw := hB1w.trans (hb.mono hB1w.size)
      refine (rules_any a P _ _ _ wx H.out.2.2.1 hck (H.out.1.below hbw) (H.out.2.1.below hbw)).mono ?_
      rintro e w' ⟨v, rfl, hr, hb'⟩
      have hr' := hr
      obtain ⟨ra, rc, rfl, -⟩ := hr
      exact ⟨ra, _, rc, rfl, hr', hb.trans (hb'.mono hb.size)⟩
    have KD : Hid (∀ wx rv, Below w1.heap.size w1 wx → IsRules wx rv (rulesD P) → Calls Tryz.prog 50 #[.agg #[.slice a1 n1 c1, .slice a2 n2 c2, .slice a3 n3 c3], rv, .slice ha n hc] wx fun e w' => ∃ v es, e = .returned v ∧ IsPairs w' v es ∧ EdgeSet (foundD P hs) es ∧ Below w1.heap.size w1 w') := fun wx rv hb hr => by
      have hbw := hB1w.trans (hb.mono hB1w.size)
      refine (edges_in P _ _ _ rv _ hs wx H.out.2.2.1 hck (H.out.1.below hbw).funs hr (H.out.2.2.2.below hbw) hok).mono ?_
      rintro e w' ⟨v, es, rfl, q1, q2, q3⟩
      exact ⟨v, es, rfl, q1, q2, hb.trans (q3.mono hb.size)⟩
    clear hv hck h1 hB1 hce hok
    go_upto_region 4 with fail
    go_region_held3 (fun wx => Below w1.heap.size w1 wx ∧ wx.cell? ⟨w.heap.size, 0, none⟩ = some (.slice a1 n1 c1) ∧ wx.cell? ⟨w.heap.size, 1, none⟩ = some (.slice a2 n2 c2) ∧ wx.cell? ⟨w.heap.size, 2, none⟩ = some (.slice a3 n3 c3))
      ((go_split_ands; refine keep3C p0 p1 p2 ?_; repeat (with_reducible first | assumption | exact Below.refl _ _ | refine Below.drew ?_)))
      (first
        | (go_at_call 44; refine (KR.out _ ?_).mono ?_; (go_split_ands; assumption); rintro e w5 ⟨ra, rn, rc, rfl, hr5, hb5⟩)
        | (go_at_call 50; refine (KD.out _ _ ?_ ?_).mono ?_; (go_split_ands; assumption); (first | exact hr5 | exact hr5.below (Below.refl _ _).drew); rintro e w6 ⟨v, es, rfl, q1, q2, hb6⟩))
    go_wp2_with fail
    go_ret2
    first
      | exact ⟨v, _, rfl, Or.inl ⟨HCE.out, rfl, es, q1, q2⟩, hB1w.trans (hb6.mono hB1w.size)⟩
      | exact ⟨v, _, rfl, Or.inl ⟨HCE.out, rfl, es, q1.below (Below.refl _ _).drew, q2⟩, (hB1w.trans (hb6.mono hB1w.size)).drew⟩
  · have HV : Hid ((consE P hs).isNone = false ∧ ErrV w1 a (consE P hs) (.iface t (.pointer (some x)))) := ⟨h1, hv⟩
    clear hv h1
    go_wp2_with fail
    go_ret2
    exact ⟨_, _, rfl, Or.inr ⟨HV.out.1, rfl, HV.out.2⟩, hB1w⟩
end Go.Proofs.YtimmkenmahagjaaGreatDoor

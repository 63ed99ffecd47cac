/-
  Package cons: slices.ContainsFunc at rules and at edges, Closed, by contracts.
-/
import Derived.Test.YtimmkenmahagjaaGreatDoorCH
import Derived.Test.YtimmkenmahagjaaGreatDoorDA
import Derived.Test.YtimmkenmahagjaaGreatDoorSetMath
import Derived.Test.YtimmkenmahagjaaGreatDoorZMM
namespace Go.Proofs.YtimmkenmahagjaaGreatDoor
open Go.RowKit Go.Extern.Stop Go.Stop Go.Extern

theorem any_takeX {α : Type} (d : α) (p : α → Bool) (zs : List α) (k : Nat) (h : k < zs.length) (h1 : (zs.take k).any p = false) (h2 : p (zs.getD k d) = false) : (zs.take (k + 1)).any p = false := by
  rw [take_snoc zs d k h, List.any_append, h1]
  simpa using h2
theorem any_atX {α : Type} (d : α) (p : α → Bool) (zs : List α) (k : Nat) (h : k < zs.length) (h2 : p (zs.getD k d) = true) : zs.any p = true :=
  List.any_eq_true.2 ⟨zs[k], List.getElem_mem h, by simpa [List.getD, h] using h2⟩
theorem getD_memX {α : Type} (d : α) (zs : List α) (k : Nat) (h : k < zs.length) : zs.getD k d ∈ zs := by simp [List.getD, h]

set_option maxRecDepth 100000 in
set_option maxHeartbeats 4000000 in
theorem indexR_of (p : RuleD → Bool) (zs : List RuleD) (v : Value) (pb : Nat) (w : World) (hm : zs.length ≤ 1000000) (h : IsRules w v zs)
    (hcl : ∀ wr r av, r ∈ zs → Below w.heap.size w wr → IsInts wr av r.args → Calls Tryz.prog 52 #[.agg #[.string (S r.kind), .int .i64 r.a, .int .i64 r.b, .int .i64 r.stmt, av], .pointer (some ⟨pb, 0, none⟩)] wr fun e w' => e = .returned (.bool (p r)) ∧ Below wr.heap.size wr w') :
    Calls Tryz.prog 82 #[v, .func (Fn.func 52) #[] #[.pointer (some ⟨pb, 0, none⟩)]] w fun e w' => ∃ r : Int, e = .returned (.int .i64 r) ∧ ((0 ≤ r ∧ zs.any p = true) ∨ (r = -1 ∧ zs.any p = false)) ∧ Below w.heap.size w w' := by
  have HCL : Hid (∀ wr r av, r ∈ zs → Below w.heap.size w wr → IsInts wr av r.args → Calls Tryz.prog 52 #[.agg #[.string (S r.kind), .int .i64 r.a, .int .i64 r.b, .int .i64 r.stmt, av], .pointer (some ⟨pb, 0, none⟩)] wr fun e w' => e = .returned (.bool (p r)) ∧ Below wr.heap.size wr w') := hcl
  obtain ⟨a, c, rfl, hq⟩ := h
  obtain ⟨n, hn⟩ : ∃ n, n = zs.length := ⟨_, rfl⟩
  rw [← hn] at hm hq ⊢
  have HN : Hid (n = zs.length) := hn
  have HQ : Hid _ := hq
  clear hcl hn hq
  go_enter Tryz.func82, Tryz.ntmps82
  go_wp2_with fail
  go_loopw [8] (fun t wr => ∃ k : Nat, k ≤ n ∧ t = .int .i64 k ∧ (zs.take k).any p = false ∧ Below w.heap.size w wr) (fun t _ => (n - intOf t).toNat)
  case atStart => exact ⟨0, Nat.zero_le _, rfl, rfl, Below.refl _ _⟩
  case round =>
    obtain ⟨k, hk, rfl, hall, hB⟩ := hrel
    have HA : Hid ((zs.take k).any p = false) := hall
    clear hall
    by_cases hlt : k < n
    · have hki : (k : Int) < n := by omega
      have hkz : k < zs.length := by rw [← HN.out]; exact hlt
      obtain ⟨b, rfl, hat⟩ := HQ.out k hlt
      obtain ⟨av, e0, e1, e2, e3, e4, e5, -⟩ := hat.below hB
      have KC : Hid _ := HCL.out wr (zs.getD k default) av (getD_memX _ _ _ hkz) hB e5
      obtain ⟨xa, xc, rfl⟩ := isInts_form e5
      generalize (zs.getD k default).args.length = xn at e4 KC
      clear hat e5
      obtain ⟨kd, hkd⟩ : ∃ z, z = S (zs.getD k default).kind := ⟨_, rfl⟩
      obtain ⟨x1, hx1⟩ : ∃ z, z = (zs.getD k default).a := ⟨_, rfl⟩
      obtain ⟨x2, hx2⟩ : ∃ z, z = (zs.getD k default).b := ⟨_, rfl⟩
      obtain ⟨x3, hx3⟩ : ∃ z, z = (zs.getD k default).stmt := ⟨_, rfl⟩
      rw [← hkd] at e0 KC
      rw [← hx1] at e1 KC
      rw [← hx2] at e2 KC
      rw [← hx3] at e3 KC
      clear hkd hx1 hx2 hx3
      obtain ⟨D, hD⟩ : ∃ D, D = p (zs.getD k default) := ⟨_, rfl⟩
      rw [← hD] at KC
      have HP : Hid (if D then zs.any p = true else (zs.take (k + 1)).any p = false) := by
        show if D then _ else _
        cases hDD : D with
        | true => exact any_atX default p zs k hkz (by rw [← hD, hDD])
        | false => exact any_takeX default p zs k hkz HA.out (by rw [← hD, hDD])
      clear hD hkz
      go_wp2_with fail
      refine Calls.mono KC.out ?_
      rintro e w1 ⟨rfl, hB1⟩
      have hBw : Below w.heap.size w w1 := hB.trans (hB1.mono hB.size)
      clear hB1 KC
      cases D with
      | true =>
        go_wp2_with fail
        go_ret
        exact ⟨k, rfl, Or.inl ⟨by omega, HP.out⟩, hBw⟩
      | false =>
        go_wp2_with fail
        go_roundw
        case rel => exact ⟨k + 1, hlt, by go_num, HP.out, hBw⟩
        case measure => simp [intOf]; omega
    · go_wp2_with fail
      go_ret
      refine ⟨-1, rfl, Or.inr ⟨rfl, ?_⟩, hB⟩
      have hkn : k = zs.length := by rw [← HN.out]; omega
      have := HA.out
      rw [hkn, List.take_length] at this
      exact this
theorem containsR_of (p : RuleD → Bool) (zs : List RuleD) (v : Value) (pb : Nat) (w : World) (hm : zs.length ≤ 1000000) (h : IsRules w v zs)
    (hcl : ∀ wr r av, r ∈ zs → Below w.heap.size w wr → IsInts wr av r.args → Calls Tryz.prog 52 #[.agg #[.string (S r.kind), .int .i64 r.a, .int .i64 r.b, .int .i64 r.stmt, av], .pointer (some ⟨pb, 0, none⟩)] wr fun e w' => e = .returned (.bool (p r)) ∧ Below wr.heap.size wr w') :
    Calls Tryz.prog 51 #[v, .func (Fn.func 52) #[] #[.pointer (some ⟨pb, 0, none⟩)]] w fun e w' => e = .returned (.bool (zs.any p)) ∧ Below w.heap.size w w' := by
  have HK : Hid (Calls Tryz.prog 82 #[v, .func (Fn.func 52) #[] #[.pointer (some ⟨pb, 0, none⟩)]] w fun e w' => ∃ r : Int, e = .returned (.int .i64 r) ∧ ((0 ≤ r ∧ zs.any p = true) ∨ (r = -1 ∧ zs.any p = false)) ∧ Below w.heap.size w w') := indexR_of p zs v pb w hm h hcl
  obtain ⟨a, c, rfl, -⟩ := h
  clear hcl hm
  obtain ⟨B, hBe⟩ : ∃ B, B = zs.any p := ⟨_, rfl⟩
  rw [← hBe] at HK ⊢
  clear hBe
  go_enter Tryz.func51, Tryz.ntmps51
  go_wp2_with fail
  refine Calls.mono HK.out ?_
  rintro e w1 ⟨r, rfl, hr, hB⟩
  rcases hr with ⟨h1, rfl⟩ | ⟨rfl, rfl⟩
  · go_wp2
    go_ret
    exact ⟨rfl, hB⟩
  · go_wp2
    go_ret
    exact ⟨rfl, hB⟩

set_option maxRecDepth 100000 in
set_option maxHeartbeats 4000000 in
theorem indexP_of (p : Pair → Bool) (zs : List Pair) (v : Value) (pb : Nat) (w : World) (hm : zs.length ≤ 1000000) (h : IsPairs w v zs)
    (hcl : ∀ wr r, r ∈ zs → Below w.heap.size w wr → Calls Tryz.prog 55 #[.agg #[.int .i64 r.1, .int .i64 r.2], .pointer (some ⟨pb, 0, none⟩)] wr fun e w' => e = .returned (.bool (p r)) ∧ Below wr.heap.size wr w') :
    Calls Tryz.prog 84 #[v, .func (Fn.func 55) #[] #[.pointer (some ⟨pb, 0, none⟩)]] w fun e w' => ∃ r : Int, e = .returned (.int .i64 r) ∧ ((0 ≤ r ∧ zs.any p = true) ∨ (r = -1 ∧ zs.any p = false)) ∧ Below w.heap.size w w' := by
  have HCL : Hid (∀ wr r, r ∈ zs → Below w.heap.size w wr → Calls Tryz.prog 55 #[.agg #[.int .i64 r.1, .int .i64 r.2], .pointer (some ⟨pb, 0, none⟩)] wr fun e w' => e = .returned (.bool (p r)) ∧ Below wr.heap.size wr w') := hcl
  obtain ⟨a, c, rfl, hq⟩ := h
  obtain ⟨n, hn⟩ : ∃ n, n = zs.length := ⟨_, rfl⟩
  rw [← hn] at hm hq ⊢
  have HN : Hid (n = zs.length) := hn
  have HQ : Hid _ := hq
  clear hcl hn hq
  go_enter Tryz.func84, Tryz.ntmps84
  go_wp2_with fail
  go_loopw [8] (fun t wr => ∃ k : Nat, k ≤ n ∧ t = .int .i64 k ∧ (zs.take k).any p = false ∧ Below w.heap.size w wr) (fun t _ => (n - intOf t).toNat)
  case atStart => exact ⟨0, Nat.zero_le _, rfl, rfl, Below.refl _ _⟩
  case round =>
    obtain ⟨k, hk, rfl, hall, hB⟩ := hrel
    have HA : Hid ((zs.take k).any p = false) := hall
    clear hall
    by_cases hlt : k < n
    · have hki : (k : Int) < n := by omega
      have hkz : k < zs.length := by rw [← HN.out]; exact hlt
      obtain ⟨b, rfl, e0, e1⟩ := HQ.out k hlt
      replace e0 := cell_keep hB e0
      replace e1 := cell_keep hB e1
      have KC : Hid _ := HCL.out wr (zs.getD k default) (getD_memX _ _ _ hkz) hB
      obtain ⟨x1, hx1⟩ : ∃ z, z = (zs.getD k default).1 := ⟨_, rfl⟩
      obtain ⟨x2, hx2⟩ : ∃ z, z = (zs.getD k default).2 := ⟨_, rfl⟩
      rw [← hx1] at e0 KC
      rw [← hx2] at e1 KC
      clear hx1 hx2
      obtain ⟨D, hD⟩ : ∃ D, D = p (zs.getD k default) := ⟨_, rfl⟩
      rw [← hD] at KC
      have HP : Hid (if D then zs.any p = true else (zs.take (k + 1)).any p = false) := by
        show if D then _ else _
        cases hDD : D with
        | true => exact any_atX default p zs k hkz (by rw [← hD, hDD])
        | false => exact any_takeX default p zs k hkz HA.out (by rw [← hD, hDD])
      clear hD hkz
      go_wp2_with fail
      refine Calls.mono KC.out ?_
      rintro e w1 ⟨rfl, hB1⟩
      have hBw : Below w.heap.size w w1 := hB.trans (hB1.mono hB.size)
      clear hB1 KC
      cases D with
      | true =>
        go_wp2_with fail
        go_ret
        exact ⟨k, rfl, Or.inl ⟨by omega, HP.out⟩, hBw⟩
      | false =>
        go_wp2_with fail
        go_roundw
        case rel => exact ⟨k + 1, hlt, by go_num, HP.out, hBw⟩
        case measure => simp [intOf]; omega
    · go_wp2_with fail
      go_ret
      refine ⟨-1, rfl, Or.inr ⟨rfl, ?_⟩, hB⟩
      have hkn : k = zs.length := by rw [← HN.out]; omega
      have := HA.out
      rw [hkn, List.take_length] at this
      exact this
theorem containsP_of (p : Pair → Bool) (zs : List Pair) (v : Value) (pb : Nat) (w : World) (hm : zs.length ≤ 1000000) (h : IsPairs w v zs)
    (hcl : ∀ wr r, r ∈ zs → Below w.heap.size w wr → Calls Tryz.prog 55 #[.agg #[.int .i64 r.1, .int .i64 r.2], .pointer (some ⟨pb, 0, none⟩)] wr fun e w' => e = .returned (.bool (p r)) ∧ Below wr.heap.size wr w') :
    Calls Tryz.prog 54 #[v, .func (Fn.func 55) #[] #[.pointer (some ⟨pb, 0, none⟩)]] w fun e w' => e = .returned (.bool (zs.any p)) ∧ Below w.heap.size w w' := by
  have HK : Hid (Calls Tryz.prog 84 #[v, .func (Fn.func 55) #[] #[.pointer (some ⟨pb, 0, none⟩)]] w fun e w' => ∃ r : Int, e = .returned (.int .i64 r) ∧ ((0 ≤ r ∧ zs.any p = true) ∨ (r = -1 ∧ zs.any p = false)) ∧ Below w.heap.size w w') := indexP_of p zs v pb w hm h hcl
  obtain ⟨a, c, rfl, -⟩ := h
  clear hcl hm
  obtain ⟨B, hBe⟩ : ∃ B, B = zs.any p := ⟨_, rfl⟩
  rw [← hBe] at HK ⊢
  clear hBe
  go_enter Tryz.func54, Tryz.ntmps54
  go_wp2_with fail
  refine Calls.mono HK.out ?_
  rintro e w1 ⟨r, rfl, hr, hB⟩
  rcases hr with ⟨h1, rfl⟩ | ⟨rfl, rfl⟩
  · go_wp2
    go_ret
    exact ⟨rfl, hB⟩
  · go_wp2
    go_ret
    exact ⟨rfl, hB⟩

end Go.Proofs.YtimmkenmahagjaaGreatDoor

/-
  Package cons: Closed by a contract.
-/
namespace Go.Proofs.YtimmkenmahagjaaGreatDoor
open Go.RowKit Go.Extern.Stop Go.Stop Go.Extern

theorem keep4C {w0 w : World} {p0 p1 p2 p3 : Addr} {v0 v1 v2 v3 : Value} (k0 : w0.cell? p0 = some v0) (k1 : w0.cell? p1 = some v1) (k2 : w0.cell? p2 = some v2) (k3 : w0.cell? p3 = some v3) (hb : Below w0.heap.size w0 w) : Below w0.heap.size w0 w ∧ w.cell? p0 = some v0 ∧ w.cell? p1 = some v1 ∧ w.cell? p2 = some v2 ∧ w.cell? p3 = some v3 :=
  ⟨hb, cell_keep hb k0, cell_keep hb k1, cell_keep hb k2, cell_keep hb k3⟩
/-- An edge to itself lacks nothing. -/
theorem lackE_self (hs : List (List Int)) (p : Pair) (h : p.1 = p.2) : lackE hs p = false := by
  unfold lackE
  rw [h, Bool.not_eq_false', List.all_eq_true]
  intro x hx
  simpa using hx
theorem lackE_any {es es' : List Pair} (hs : List (List Int)) (h : EdgeSet es es') : es'.any (lackE hs) = es.any (lackE hs) := by
  rw [Bool.eq_iff_iff, List.any_eq_true, List.any_eq_true]
  constructor
  · rintro ⟨p, hp, hl⟩
    exact ⟨p, ((h.mem p).1 hp).1, hl⟩
  · rintro ⟨p, hp, hl⟩
    refine ⟨p, (h.mem p).2 ⟨hp, fun e => ?_⟩, hl⟩
    rw [lackE_self hs p e] at hl
    cases hl
theorem closedB_lack (P : ProgD) (hs : List (List Int)) : closedB P hs = (!(rulesD P).any (lackR hs) && !(foundD P hs).any (lackE hs)) := rfl
/-- What Closed tells. -/
def ClosedPost (a : Nat → Addr) (P : ProgD) (hs : List (List Int)) (w w' : World) (e : Ending) : Prop :=
  ∃ b ev, e = .returned (.tuple #[.bool b, ev]) ∧ ((consE P hs = none ∧ ev = .nilIface ∧ b = closedB P hs) ∨ ((consE P hs).isNone = false ∧ b = false ∧ ErrV w' a (consE P hs) ev)) ∧ Below w.heap.size w w'
set_option maxRecDepth 100000 in
set_option maxHeartbeats 8000000 in
theorem closed_any (a : Nat → Addr) (P : ProgD) (v1 v2 v3 hv : Value) (hs : List (List Int)) (w : World) (hS : SmallP P) (h : IsProg w v1 v2 v3 P) (hH : IsSets w hv hs) (hE : Errs5 w a) (h3 : Three w a) (hn : hs.length ≤ 1000000) (hl : ∀ j, j < hs.length → (hs.getD j []).length ≤ 1000000) :
    Calls Tryz.prog 21 #[.agg #[v1, v2, v3], hv] w fun e w' => ClosedPost a P hs w w' e := by
  have H : Hid (IsProg w v1 v2 v3 P ∧ Errs5 w a ∧ SmallP P ∧ IsSets w hv hs) := ⟨h, hE, hS, hH⟩
  obtain ⟨⟨a1, c1, rfl, -, -⟩, ⟨a2, c2, rfl, -, -⟩, ⟨a3, c3, rfl, -, -⟩⟩ := h
  obtain ⟨ha, hc, rfl, -⟩ := hH
  obtain ⟨n1, hn1⟩ : ∃ m, m = P.vars.length := ⟨_, rfl⟩
  obtain ⟨n2, hn2⟩ : ∃ m, m = P.funs.length := ⟨_, rfl⟩
  obtain ⟨n3, hn3⟩ : ∃ m, m = P.stmts.length := ⟨_, rfl⟩
  obtain ⟨n, hnn⟩ : ∃ m, m = hs.length := ⟨_, rfl⟩
  rw [← hn1, ← hn2, ← hn3] at H ⊢
  rw [← hnn] at H ⊢
  have HN : Hid (n = hs.length) := hnn
  obtain ⟨W, hW⟩ : ∃ W, W = (w.alloc (.cells #[.slice a1 n1 c1, .slice a2 n2 c2, .slice a3 n3 c3] 26)).alloc (.cells #[.slice ha n hc] 27) := ⟨_, rfl⟩
  have hBW : Below w.heap.size w W := by rw [hW]; exact (below1 w _).alloc (by simp) _
  have HX : Hid (Box3 W w.heap.size (.slice a1 n1 c1) (.slice a2 n2 c2) (.slice a3 n3 c3) ∧ W.cell? ⟨w.heap.size + 1, 0, none⟩ = some (.slice ha n hc)) := by
    refine ⟨?_, ?_⟩
    · rw [hW]; exact (box3_new w _ _ _ _).below (below1 _ _)
    · rw [hW]
      have := heap_new (w.alloc (.cells #[.slice a1 n1 c1, .slice a2 n2 c2, .slice a3 n3 c3] 26)) (.cells #[.slice ha n hc] 27)
      rw [Lib.cell_of_heap (by simpa using this)]
      rfl
  have KC : Hid (Calls Tryz.prog 49 #[.agg #[.slice a1 n1 c1, .slice a2 n2 c2, .slice a3 n3 c3], .slice ha n hc] W fun e w' => ∃ v', e = .returned v' ∧ ErrV w' a (consE P hs) v' ∧ Below W.heap.size W w') := checkC_any a P _ _ _ _ hs W hS (H.out.1.below hBW) (H.out.2.2.2.below hBW) (hE.below hBW) (h3.below hBW) hn hl
  obtain ⟨p0, p1, p2⟩ := HX.out.1
  have p3 := HX.out.2
  clear hn1 hn2 hn3 hE hS hnn hn hl h3
  go_enter Tryz.func21, Tryz.ntmps21
  go_upto_region 1 with fail
  rw [← hW]
  clear hW
  go_wp2_with fail
  refine KC.out.mono ?_
  rintro e w1 ⟨v', rfl, hv, hB1⟩
  clear KC
  have hB1w : Below w.heap.size w w1 := hBW.trans (hB1.mono hBW.size)
  replace p0 := cell_keep hB1 p0
  replace p1 := cell_keep hB1 p1
  replace p2 := cell_keep hB1 p2
  replace p3 := cell_keep hB1 p3
  rcases hv.cases with ⟨h1, rfl⟩ | ⟨h1, t, x, rfl⟩
  · have hce : consE P hs = none := Option.isNone_iff_eq_none.1 h1
    have HCE : Hid (consE P hs = none) := hce
    obtain ⟨hck, hok⟩ := consE_ok hce
    have KR : Hid (Calls Tryz.prog 44 #[.agg #[.slice a1 n1 c1, .slice a2 n2 c2, .slice a3 n3 c3]] w1 fun e w' => ∃ ra rn rc, e = .returned (.slice ra rn rc) ∧ IsRules w' (.slice ra rn rc) (rulesD P) ∧ Below w1.heap.size w1 w') := by
      refine (rules_any a P _ _ _ w1 H.out.2.2.1 hck (H.out.1.below hB1w) (H.out.2.1.below hB1w)).mono ?_
      rintro e w' ⟨v, rfl, hr, hb'⟩
      have hr' := hr
      obtain ⟨ra, rc, rfl, -⟩ := hr
      exact ⟨ra, _, rc, rfl, hr', hb'⟩
    have HOK : Hid (checkE P = none ∧ SetsOk P hs ∧ P.vars.length ≤ hs.length) := ⟨hck, hok, by rw [hok.len]; unfold places; omega⟩
    obtain ⟨LR, hLR⟩ : ∃ b, b = (rulesD P).any (lackR hs) := ⟨_, rfl⟩
    obtain ⟨LE, hLE⟩ : ∃ b, b = (foundD P hs).any (lackE hs) := ⟨_, rfl⟩
    have HCB : Hid (closedB P hs = (!LR && !LE)) := by show _ = _; rw [closedB_lack, hLR, hLE]
    have K5 : Hid (∀ wx rv, Below w1.heap.size w1 wx → wx.cell? ⟨w.heap.size + 1, 0, none⟩ = some (.slice ha n hc) → IsRules wx rv (rulesD P) → Calls Tryz.prog 51 #[rv, .func (Fn.func 52) #[] #[.pointer (some ⟨w.heap.size + 1, 0, none⟩)]] wx fun e w' => e = .returned (.bool LR) ∧ Below wx.heap.size wx w') := fun wx rv hb hp hr => by
      have hbw := hB1w.trans (hb.mono hB1w.size)
      rw [hLR]
      refine containsR_of (lackR hs) (rulesD P) rv _ wx (by rw [rulesD_len]; have := (right_small HOK.out.1).1; omega) hr (fun wr r av hm hb2 hi => ?_)
      have hsx := (H.out.2.2.2.below hbw).below hb2
      have hp2 := cell_keep hb2 hp
      rw [HN.out] at hsx hp2
      refine closed1_any r av hs ha hc _ wr hp2 hsx (fun hk => ?_) (fun j hj => by have := HOK.out.2.1.short HOK.out.1 j hj; omega)
      have := (rule_names HOK.out.1 r hm).1
      have := HOK.out.2.2
      omega
    have K6a : Hid (∀ wx rv, Below w1.heap.size w1 wx → IsRules wx rv (rulesD P) → Calls Tryz.prog 50 #[.agg #[.slice a1 n1 c1, .slice a2 n2 c2, .slice a3 n3 c3], rv, .slice ha n hc] wx fun e w' => ∃ ea en ec es, e = .returned (.slice ea en ec) ∧ IsPairs w' (.slice ea en ec) es ∧ EdgeSet (foundD P hs) es ∧ Below w1.heap.size w1 w' ∧ Below wx.heap.size wx w') := fun wx rv hb hr => by
      have hbw := hB1w.trans (hb.mono hB1w.size)
      refine (edges_in P _ _ _ rv _ hs wx H.out.2.2.1 HOK.out.1 (H.out.1.below hbw).funs hr (H.out.2.2.2.below hbw) HOK.out.2.1).mono ?_
      rintro e w' ⟨v, es, rfl, q1, q2, q3⟩
      have q1' := q1
      obtain ⟨ea, ec, rfl, -⟩ := q1
      exact ⟨ea, _, ec, es, rfl, q1', q2, hb.trans (q3.mono hb.size), q3⟩
    have K6b : Hid (∀ wx ev es, Below w1.heap.size w1 wx → wx.cell? ⟨w.heap.size + 1, 0, none⟩ = some (.slice ha n hc) → IsPairs wx ev es → EdgeSet (foundD P hs) es → Calls Tryz.prog 54 #[ev, .func (Fn.func 55) #[] #[.pointer (some ⟨w.heap.size + 1, 0, none⟩)]] wx fun e w' => e = .returned (.bool LE) ∧ Below w1.heap.size w1 w') := fun wx ev es hb hp hr hes => by
      have hbw := hB1w.trans (hb.mono hB1w.size)
      rw [hLE, ← lackE_any hs hes]
      have hel : es.length ≤ 1000000 := by
        have h1 := up_length hes.up (fun p hp => ((hes.mem p).1 hp).1)
        have h2 := foundD_len HOK.out.2.1 HOK.out.1
        omega
      refine (containsP_of (lackE hs) es ev _ wx hel hr (fun wr r hm hb2 => ?_)).mono fun e w' ⟨r1, r2⟩ => ⟨r1, hb.trans (r2.mono hb.size)⟩
      have hsx := (H.out.2.2.2.below hbw).below hb2
      have hp2 := cell_keep hb2 hp
      rw [HN.out] at hsx hp2
      have hnd := found_nodes HOK.out.1 HOK.out.2.1 r ((hes.mem r).1 hm).1
      exact closed2_any r hs ha hc _ wr hp2 hsx (by omega) (by omega) (fun j hj => by have := HOK.out.2.1.short HOK.out.1 j hj; omega)
    clear hv hck h1 hce hok hLR hLE hB1 hBW
    go_upto_region 4 with fail
    go_wp2_with fail
    refine KR.out.mono ?_
    rintro e w2 ⟨ra, rn, rc, rfl, hr2, hB2⟩
    have HR2 : Hid (IsRules w2 (.slice ra rn rc) (rulesD P)) := hr2
    have HB2 : Hid (Below w1.heap.size w1 w2) := hB2
    replace p0 := cell_keep hB2 p0
    replace p1 := cell_keep hB2 p1
    replace p2 := cell_keep hB2 p2
    replace p3 := cell_keep hB2 p3
    clear KR hr2
    go_upto_region 5 with fail
    go_wp2_with fail
    refine (K5.out w2 _ HB2.out p3 HR2.out).mono ?_
    rintro e w3 ⟨rfl, hB3⟩
    have HB3 : Hid (Below w1.heap.size w1 w3 ∧ IsRules w3 (.slice ra rn rc) (rulesD P)) := ⟨HB2.out.trans (hB3.mono HB2.out.size), HR2.out.below hB3⟩
    replace p0 := cell_keep hB3 p0
    replace p1 := cell_keep hB3 p1
    replace p2 := cell_keep hB3 p2
    replace p3 := cell_keep hB3 p3
    have K6c : Hid (∀ wx, Below w3.heap.size w3 wx → Below w1.heap.size w1 wx ∧ IsRules wx (.slice ra rn rc) (rulesD P)) := fun wx hb => ⟨HB3.out.1.trans (hb.mono HB3.out.1.size), HB3.out.2.below hb⟩
    clear hB2 hB3 HB2 HR2 K5
    go_upto_region 6 with fail
    go_wp2_with fail
    refine (K6a.out _ _ (K6c.out w3 (Below.refl _ _)).1 (K6c.out w3 (Below.refl _ _)).2).mono ?_
    rintro e w5 ⟨ea, en, ec, es, rfl, hp5, he5, hb5, hb5x⟩
    replace p3 := cell_keep hb5x p3
    have H5 : Hid (IsPairs w5 (.slice ea en ec) es ∧ EdgeSet (foundD P hs) es ∧ Below w1.heap.size w1 w5) := ⟨hp5, he5, hb5⟩
    clear hp5 he5 hb5 hb5x p0 p1 p2 K6a K6c
    go_wp2_with fail
    refine (K6b.out w5 _ es H5.out.2.2 p3 H5.out.1 H5.out.2.1).mono ?_
    rintro e w6 ⟨rfl, hb6⟩
    have HB6 : Hid (Below w.heap.size w w6) := hB1w.trans (hb6.mono hB1w.size)
    clear K6b H5 hb6 p3
    cases LR <;> cases LE
    all_goals
      go_wp2_with fail
      go_ret2
      exact ⟨_, _, rfl, Or.inl ⟨HCE.out, rfl, by rw [HCB.out]; rfl⟩, HB6.out⟩
  · have HV : Hid ((consE P hs).isNone = false ∧ ErrV w1 a (consE P hs) (.iface t (.pointer (some x)))) := ⟨h1, hv⟩
    clear hv h1
    go_wp2_with fail
    go_ret2
    exact ⟨_, _, rfl, Or.inr ⟨HV.out.1, rfl, HV.out.2⟩, hB1w⟩
end Go.Proofs.YtimmkenmahagjaaGreatDoor

/-
  ANDERSEN, plain: whatever is done, what a variable or a thing has is one of its node's objects.
-/
import Derived.Test.YteekjigaicmohaaGreatDoorRKM
import Derived.Test.YteekjigaicmohaaGreatDoorXMM
import Derived.Test.YteekjigaicmohaaGreatDoorTJM
namespace Go.Proofs.YteekjigaicmohaaGreatDoor
open Go.RowKit Go.Extern.Stop Go.Stop Go.Extern

theorem places_mono (P : ProgD) {a b : Nat} (h : a ≤ b) : places P a ≤ places P b := by
  unfold places
  have h1 : P.stmts.take a = (P.stmts.take b).take a := by rw [List.take_take, Nat.min_eq_left h]
  rw [h1]
  have := ((List.take_sublist a (P.stmts.take b)).filter (fun s : StmtD => s.kind == kNew)).length_le
  omega
theorem places_lt (P : ProgD) {k : Nat} (hk : k < P.stmts.length) (hn : (P.stmts.getD k default).kind = kNew) : places P k < places P P.stmts.length := by
  have h1 := places_succ P k hk
  have h2 := places_mono P (a := k + 1) (b := P.stmts.length) (by omega)
  rw [hn] at h1
  simp at h1
  omega
theorem places_ge (P : ProgD) (k : Nat) : P.vars.length ≤ places P k := by unfold places; omega
/-- The object of a reference. -/
def objR (P : ProgD) (pl : List Int) : Ref → Int
  | .inl i => (i : Int)
  | .inr (.inl t) => ((places P (pl.getD t 0).toNat : Nat) : Int)
  | .inr (.inr f) => ((places P P.stmts.length : Nat) : Int) + (f : Int)
/-- An answer is closed: base rules and edges. -/
structure Cl (P : ProgD) (L : List (List Int)) : Prop where
  base : ∀ r ∈ rulesD P, r.kind = kBase → r.b ∈ setAt L r.a
  edge : ∀ p ∈ foundD P L, ∀ x ∈ setAt L p.1, x ∈ setAt L p.2
theorem Cl.of {P : ProgD} {L : List (List Int)} (h : closedB P L = true) : Cl P L := by
  unfold closedB at h
  rw [Bool.and_eq_true, Bool.not_eq_true', Bool.not_eq_true', List.any_eq_false, List.any_eq_false] at h
  refine ⟨fun r hr hk => ?_, fun p hp x hx => ?_⟩
  · have := h.1 r hr
    simpa [hk] using this
  · have := h.2 p hp
    rw [Bool.not_eq_true', Bool.not_eq_false] at this
    have h2 := List.all_eq_true.1 this x hx
    simpa using h2
/-- Each variable and each thing has one of its node's objects. -/
structure Inv (P : ProgD) (L : List (List Int)) (s : StD) : Prop where
  lv : s.vars.length = P.vars.length
  lp : s.places.length = s.things.length
  pl : ∀ t, t < s.places.length → 0 ≤ s.places.getD t 0 ∧ (s.places.getD t 0).toNat < P.stmts.length ∧ (P.stmts.getD (s.places.getD t 0).toNat default).kind = kNew
  has : ∀ r : Ref, r.ok P.vars.length P.funs.length s.things.length → r.isFn = false → ∀ x, s.get r = some x → x.ok P.vars.length P.funs.length s.things.length ∧ objR P s.places x ∈ setAt L (objR P s.places r)
theorem Inv.start (P : ProgD) (L : List (List Int)) : Inv P L (st0 P.vars.length) := by
  refine ⟨by simp [st0], rfl, fun t ht => absurd ht (Nat.not_lt_zero _), fun r hr hf x hx => ?_⟩
  cases r using ref_cases with
  | var i =>
    have : (st0 P.vars.length).get (.var i) = (List.replicate P.vars.length (none : Option Ref)).getD i none := rfl
    rw [this] at hx
    by_cases hi : i < P.vars.length
    · simp [List.getD, hi] at hx
    · simp [List.getD, hi] at hx
  | thing i => exact absurd hr (Nat.not_lt_zero _)
  | fn i => cases hx
theorem Inv.put {P : ProgD} {L : List (List Int)} {s : StD} (h : Inv P L s) {r : Ref} (hr : r.ok P.vars.length P.funs.length s.things.length) (hf : r.isFn = false) (x : Option Ref)
    (hx : ∀ y, x = some y → y.ok P.vars.length P.funs.length s.things.length ∧ objR P s.places y ∈ setAt L (objR P s.places r)) : Inv P L (s.put r x) := by
  refine ⟨by rw [put_vars]; exact h.lv, by rw [put_places, put_things]; exact h.lp, by rw [put_places]; exact h.pl, fun r' hr' hf' y hy => ?_⟩
  rw [put_things] at hr' ⊢
  rw [put_places]
  by_cases e : r = r'
  · subst e
    rw [get_put_same h.lv hr hf] at hy
    exact hx y hy
  · rw [get_put_other e] at hy
    exact h.has r' hr' hf' y hy
/-- The object of what is there, and is no function, is a node. -/
theorem Inv.node {P : ProgD} {L : List (List Int)} {s : StD} (h : Inv P L s) {r : Ref} (hr : r.ok P.vars.length P.funs.length s.things.length) (hf : r.isFn = false) : 0 ≤ objR P s.places r ∧ objR P s.places r < ((places P P.stmts.length : Nat) : Int) := by
  cases r using ref_cases with
  | var i =>
    have h1 : i < P.vars.length := hr
    have h2 := places_ge P P.stmts.length
    show 0 ≤ (i : Int) ∧ (i : Int) < _
    omega
  | thing t =>
    have h1 : t < s.things.length := hr
    obtain ⟨q1, q2, q3⟩ := h.pl t (by rw [h.lp]; exact h1)
    have h2 := places_lt P q2 q3
    show 0 ≤ ((places P (s.places.getD t 0).toNat : Nat) : Int) ∧ ((places P (s.places.getD t 0).toNat : Nat) : Int) < _
    omega
  | fn i => cases hf
theorem ruleD_mem (P : ProgD) {k : Nat} (hk : k < P.stmts.length) : ruleD P k ∈ rulesD P := List.mem_map.2 ⟨k, List.mem_range.2 hk, rfl⟩
theorem edge_of {P : ProgD} {L : List (List Int)} (hcl : Cl P L) {r : RuleD} (hr : r ∈ rulesD P) {p : Pair} (hp : p ∈ followD P L r) {x : Int} (hx : x ∈ setAt L p.1) : x ∈ setAt L p.2 :=
  hcl.edge p (List.mem_flatMap.2 ⟨r, hr, hp⟩) x hx
theorem follow_ask {P : ProgD} {L : List (List Int)} {r : RuleD} (h0 : ¬ askedD r < 0) {o : Int} (ho : o ∈ setAt L (askedD r)) {p : Pair} (hp : p ∈ joinD L.length P.funs r o) : p ∈ followD P L r := by
  unfold followD
  rw [if_neg h0]
  exact List.mem_append_right _ (List.mem_flatMap.2 ⟨o, ho, hp⟩)
theorem putN_inv {P : ProgD} {L : List (List Int)} {s : StD} (h : Inv P L s) (ps : List Int) (gs : List (Option Ref)) (n : Nat) (hp : ∀ j, j < n → 0 ≤ ps.getD j 0 ∧ ps.getD j 0 < (P.vars.length : Int))
    (hg : ∀ j, j < n → ∀ y, gs.getD j none = some y → y.ok P.vars.length P.funs.length s.things.length ∧ objR P s.places y ∈ setAt L (ps.getD j 0)) : Inv P L (putN s ps gs n) := by
  induction n with
  | zero => exact h
  | succ n ih =>
    have h1 := ih (fun j hj => hp j (by omega)) (fun j hj => hg j (by omega))
    have hpn := hp n (Nat.lt_succ_self _)
    refine h1.put (r := .var (ps.getD n 0).toNat) (show (ps.getD n 0).toNat < P.vars.length by omega) rfl _ fun y hy => ?_
    rw [putN_things, putN_places]
    obtain ⟨q1, q2⟩ := hg n (Nat.lt_succ_self _) y hy
    refine ⟨q1, ?_⟩
    show _ ∈ setAt L (((ps.getD n 0).toNat : Nat) : Int)
    rw [show (((ps.getD n 0).toNat : Nat) : Int) = ps.getD n 0 by omega]
    exact q2
theorem objR_more {P : ProgD} {pl : List Int} {n1 n2 : Nat} {r : Ref} (hr : r.ok n1 n2 pl.length) (k : Int) : objR P (pl ++ [k]) r = objR P pl r := by
  cases r using ref_cases with
  | var i => rfl
  | thing t =>
    have h1 : t < pl.length := hr
    show ((places P ((pl ++ [k]).getD t 0).toNat : Nat) : Int) = _
    rw [getD_snoc_left _ _ _ _ h1]
    rfl
  | fn i => rfl
theorem inv_addT {P : ProgD} {L : List (List Int)} {s : StD} (h : Inv P L s) (k : Nat) (hk : k < P.stmts.length) (hn : (P.stmts.getD k default).kind = kNew) : Inv P L (addT s (k : Int)) := by
  have e1 : (addT s (k : Int)).things = s.things ++ [none] := rfl
  have e2 : (addT s (k : Int)).places = s.places ++ [(k : Int)] := rfl
  refine ⟨h.lv, by rw [e1, e2, List.length_append, List.length_append, h.lp]; rfl, fun t ht => ?_, fun r hr hf x hx => ?_⟩
  · rw [e2] at ht ⊢
    rw [List.length_append, List.length_singleton] at ht
    by_cases e : t < s.places.length
    · rw [getD_snoc_left _ _ _ _ e]; exact h.pl t e
    · rw [getD_snoc_last _ _ _ _ (by omega)]
      exact ⟨Int.natCast_nonneg _, by rw [Int.toNat_natCast]; exact hk, by rw [Int.toNat_natCast]; exact hn⟩
  · rw [e1, List.length_append, List.length_singleton] at hr ⊢
    rw [e2]
    have hold : r.ok P.vars.length P.funs.length s.things.length → x.ok P.vars.length P.funs.length (s.things.length + 1) ∧ objR P (s.places ++ [(k : Int)]) x ∈ setAt L (objR P (s.places ++ [(k : Int)]) r) := fun hro => by
      rw [get_addT hro] at hx
      obtain ⟨q1, q2⟩ := h.has r hro hf x hx
      have q1' : x.ok P.vars.length P.funs.length s.places.length := by rw [h.lp]; exact q1
      have hro' : r.ok P.vars.length P.funs.length s.places.length := by rw [h.lp]; exact hro
      rw [objR_more q1', objR_more hro']
      exact ⟨ok_more (x := some x) (fun r' e => by cases e; exact q1) x rfl, q2⟩
    cases r using ref_cases with
    | var i => exact hold hr
    | thing t =>
      by_cases e : t < s.things.length
      · exact hold e
      · have ht : t = s.things.length := by have : t < s.things.length + 1 := hr; omega
        have : (addT s (k : Int)).get (.thing t) = (s.things ++ [none]).getD t none := rfl
        rw [this, getD_snoc_last _ _ _ _ ht] at hx
        cases hx
    | fn i => cases hf
theorem zip_mem {xs ys : List Int} (hl : ys.length = xs.length) (j : Nat) (hj : j < xs.length) : (xs.getD j 0, ys.getD j 0) ∈ List.zip xs ys := by
  refine List.mem_iff_getElem.2 ⟨j, by rw [List.length_zip]; omega, ?_⟩
  rw [List.getElem_zip]
  have h2 : j < ys.length := by omega
  simp [List.getD, hj, h2]
/-- A step. -/
theorem Inv.step {P : ProgD} {L : List (List Int)} {s : StD} (hc : checkE P = none) (hS : SmallP P) (hL : L.length = places P P.stmts.length) (hcl : Cl P L) (h : Inv P L s) (k : Nat) (hk : k < P.stmts.length) : Inv P L (stepD P s k) := by
  have hR := right_of hc
  have hm := ruleD_mem P hk
  obtain ⟨k1, k2, k3, k4, -⟩ := stmt_parts (hR.st _ (getDm hk))
  unfold stepD
  have hrd : ruleD P k = if (P.stmts.getD k default).kind = kAddr then ⟨kBase, (P.stmts.getD k default).x, (P.stmts.getD k default).y, k, []⟩ else if (P.stmts.getD k default).kind = kNew then ⟨kBase, (P.stmts.getD k default).x, (places P k : Nat), k, []⟩ else if (P.stmts.getD k default).kind = kFun then ⟨kBase, (P.stmts.getD k default).x, (places P P.stmts.length : Nat) + (P.stmts.getD k default).y, k, []⟩ else ⟨(P.stmts.getD k default).kind, (P.stmts.getD k default).y, (P.stmts.getD k default).x, k, (P.stmts.getD k default).args⟩ := rfl
  have hnew : (P.stmts.getD k default).kind = kNew → Inv P L (addT s (k : Int)) := fun hn => inv_addT h k hk hn
  obtain ⟨st, hste⟩ : ∃ st, st = P.stmts.getD k default := ⟨_, rfl⟩
  rw [← hste] at k1 k2 k3 k4 hrd hnew ⊢
  obtain ⟨x0, x1⟩ := varB_parts k2
  obtain ⟨X, hX⟩ : ∃ X : Nat, st.x = (X : Int) := ⟨st.x.toNat, by omega⟩
  have hXn : X < P.vars.length := by omega
  have hxok : (Ref.var X).ok P.vars.length P.funs.length s.things.length := hXn
  have yv : st.kind ≠ kFun → st.kind ≠ kNew → 0 ≤ st.y ∧ st.y < (P.vars.length : Int) := fun n1 n2 => by
    unfold yB at k3
    rw [if_neg (by simpa using n1), if_neg (by simpa using n2)] at k3
    exact varB_parts k3
  have hval : ∀ (Y : Nat), Y < P.vars.length → ∀ v, s.get (.var Y) = some v → v.ok P.vars.length P.funs.length s.things.length ∧ objR P s.places v ∈ setAt L (Y : Int) := fun Y hY v hv => h.has (.var Y) hY rfl v hv
  simp only [kinds, List.contains_cons, List.contains_nil, Bool.or_false, Bool.or_eq_true, beq_iff_eq] at k1
  have hcases : st.kind = kAddr ∨ st.kind = kCopy ∨ st.kind = kLoad ∨ st.kind = kStore ∨ st.kind = kNew ∨ st.kind = kFun ∨ st.kind = kCall := by
    rcases k1 with e | e | e | e | e | e | e <;> simp [e]
  unfold doStmt
  rw [hX, Int.toNat_natCast]
  rcases hcases with e | e | e | e | e | e | e
  · obtain ⟨y0, y1⟩ := yv (by rw [e]; decide) (by rw [e]; decide)
    obtain ⟨Y, hY⟩ : ∃ Y : Nat, st.y = (Y : Int) := ⟨st.y.toNat, by omega⟩
    rw [if_pos e, hY, Int.toNat_natCast]
    rw [if_pos e, hX, hY] at hrd
    refine h.put hxok rfl _ fun v hv => ?_
    injection hv with hv
    subst hv
    have hb := hcl.base _ hm (by rw [hrd])
    rw [hrd] at hb
    exact ⟨show Y < P.vars.length by omega, hb⟩
  · obtain ⟨y0, y1⟩ := yv (by rw [e]; decide) (by rw [e]; decide)
    obtain ⟨Y, hY⟩ : ∃ Y : Nat, st.y = (Y : Int) := ⟨st.y.toNat, by omega⟩
    rw [if_neg (by rw [e]; decide), if_pos e, hY, Int.toNat_natCast]
    rw [if_neg (by rw [e]; decide), if_neg (by rw [e]; decide), if_neg (by rw [e]; decide), hX, hY, e] at hrd
    refine h.put hxok rfl _ fun v hv => ?_
    obtain ⟨q1, q2⟩ := hval Y (by omega) v hv
    refine ⟨q1, ?_⟩
    have hf : ((Y : Int), (X : Int)) ∈ followD P L (ruleD P k) := by
      unfold followD copyD
      rw [hrd, if_pos rfl]
      exact List.mem_append_left _ (List.mem_singleton.2 rfl)
    exact edge_of hcl hm hf q2
  · obtain ⟨y0, y1⟩ := yv (by rw [e]; decide) (by rw [e]; decide)
    obtain ⟨Y, hY⟩ : ∃ Y : Nat, st.y = (Y : Int) := ⟨st.y.toNat, by omega⟩
    rw [if_neg (by rw [e]; decide), if_neg (by rw [e]; decide), if_pos e, hY, Int.toNat_natCast]
    rw [if_neg (by rw [e]; decide), if_neg (by rw [e]; decide), if_neg (by rw [e]; decide), hX, hY, e] at hrd
    have hask : askedD (ruleD P k) = (Y : Int) := by unfold askedD; rw [hrd, if_pos rfl]
    cases hv : s.get (.var Y) with
    | none => exact h
    | some r =>
      show Inv P L (if r.isFn then s else s.put (.var X) (s.get r))
      cases hf : r.isFn with
      | true => exact h
      | false =>
        rw [if_neg (by decide)]
        obtain ⟨q1, q2⟩ := hval Y (by omega) r hv
        obtain ⟨z0, z1⟩ := h.node q1 hf
        refine h.put hxok rfl _ fun v hv2 => ?_
        obtain ⟨w1, w2⟩ := h.has r q1 hf v hv2
        refine ⟨w1, ?_⟩
        have hfo : (objR P s.places r, (X : Int)) ∈ followD P L (ruleD P k) := by
          refine follow_ask (by rw [hask]; omega) (o := objR P s.places r) (by rw [hask]; exact q2) ?_
          unfold joinD
          rw [hrd, if_pos rfl, if_pos (by rw [hL]; exact z1)]
          exact List.mem_singleton.2 rfl
        exact edge_of hcl hm hfo w2
  · obtain ⟨y0, y1⟩ := yv (by rw [e]; decide) (by rw [e]; decide)
    obtain ⟨Y, hY⟩ : ∃ Y : Nat, st.y = (Y : Int) := ⟨st.y.toNat, by omega⟩
    rw [if_neg (by rw [e]; decide), if_neg (by rw [e]; decide), if_neg (by rw [e]; decide), if_pos e, hY, Int.toNat_natCast]
    rw [if_neg (by rw [e]; decide), if_neg (by rw [e]; decide), if_neg (by rw [e]; decide), hX, hY, e] at hrd
    have hask : askedD (ruleD P k) = (X : Int) := by unfold askedD; rw [hrd, if_neg (by show kStore ≠ kLoad; decide), if_neg (by show kStore ≠ kCall; decide), if_pos rfl]
    cases hv : s.get (.var X) with
    | none => exact h
    | some r =>
      show Inv P L (if r.isFn then s else s.put r (s.get (.var Y)))
      cases hf : r.isFn with
      | true => exact h
      | false =>
        rw [if_neg (by decide)]
        obtain ⟨q1, q2⟩ := hval X hXn r hv
        obtain ⟨z0, z1⟩ := h.node q1 hf
        refine h.put q1 hf _ fun v hv2 => ?_
        obtain ⟨w1, w2⟩ := hval Y (by omega) v hv2
        refine ⟨w1, ?_⟩
        have hfo : ((Y : Int), objR P s.places r) ∈ followD P L (ruleD P k) := by
          refine follow_ask (by rw [hask]; omega) (o := objR P s.places r) (by rw [hask]; exact q2) ?_
          unfold joinD
          rw [hrd, if_neg (by show kStore ≠ kLoad; decide), if_pos rfl, if_pos (by rw [hL]; exact z1)]
          exact List.mem_singleton.2 rfl
        exact edge_of hcl hm hfo w2
  · rw [if_neg (by rw [e]; decide), if_neg (by rw [e]; decide), if_neg (by rw [e]; decide), if_neg (by rw [e]; decide), if_pos e]
    rw [if_neg (by rw [e]; decide), if_pos e, hX] at hrd
    have ha := hnew e
    have hnt : s.things.length < (addT s (k : Int)).things.length := by
      show _ < (s.things ++ [none]).length
      rw [List.length_append, List.length_singleton]; omega
    refine ha.put (r := .var X) hXn rfl _ fun v hv => ?_
    injection hv with hv
    subst hv
    have hb := hcl.base _ hm (by rw [hrd])
    rw [hrd] at hb
    refine ⟨hnt, ?_⟩
    show ((places P ((s.places ++ [(k : Int)]).getD s.things.length 0).toNat : Nat) : Int) ∈ setAt L (X : Int)
    rw [getD_snoc_last _ _ _ _ h.lp.symm, Int.toNat_natCast]
    exact hb
  · have hy : 0 ≤ st.y ∧ st.y < (P.funs.length : Int) := by
      unfold yB at k3
      rw [if_pos (by simpa using e)] at k3
      exact funB_parts k3
    obtain ⟨Y, hY⟩ : ∃ Y : Nat, st.y = (Y : Int) := ⟨st.y.toNat, by omega⟩
    rw [if_neg (by rw [e]; decide), if_neg (by rw [e]; decide), if_neg (by rw [e]; decide), if_neg (by rw [e]; decide), if_neg (by rw [e]; decide), if_pos e, hY, Int.toNat_natCast]
    rw [if_neg (by rw [e]; decide), if_neg (by rw [e]; decide), if_pos e, hX, hY] at hrd
    refine h.put hxok rfl _ fun v hv => ?_
    injection hv with hv
    subst hv
    have hb := hcl.base _ hm (by rw [hrd])
    rw [hrd] at hb
    exact ⟨show Y < P.funs.length by omega, hb⟩
  · obtain ⟨y0, y1⟩ := yv (by rw [e]; decide) (by rw [e]; decide)
    obtain ⟨Y, hY⟩ : ∃ Y : Nat, st.y = (Y : Int) := ⟨st.y.toNat, by omega⟩
    rw [if_neg (by rw [e]; decide), if_neg (by rw [e]; decide), if_neg (by rw [e]; decide), if_neg (by rw [e]; decide), if_neg (by rw [e]; decide), if_neg (by rw [e]; decide), hY, Int.toNat_natCast]
    rw [if_neg (by rw [e]; decide), if_neg (by rw [e]; decide), if_neg (by rw [e]; decide), hX, hY, e] at hrd
    have hask : askedD (ruleD P k) = (Y : Int) := by unfold askedD; rw [hrd, if_neg (by show kCall ≠ kLoad; decide), if_pos rfl]
    cases hv : s.get (.var Y) with
    | none => exact h
    | some r =>
      obtain ⟨q1, q2⟩ := hval Y (by omega) r hv
      cases r using ref_cases with
      | var i => exact h
      | thing i => exact h
      | fn i =>
        have hi : i < P.funs.length := q1
        obtain ⟨F, hF⟩ : ∃ F, F = P.funs.getD i default := ⟨_, rfl⟩
        have hfo := fun_ok hR hS i hi
        show Inv P L (enterD (P.funs.getD i default) s X st.args)
        rw [← hF] at hfo ⊢
        unfold enterD
        by_cases hl : F.params.length = st.args.length
        · rw [if_pos hl]
          have hjo : ∀ p, p ∈ List.zip st.args F.params ++ [(F.ret, (X : Int))] → p ∈ followD P L (ruleD P k) := fun p hp => by
            refine follow_ask (by rw [hask]; omega) (o := ((places P P.stmts.length : Nat) : Int) + (i : Int)) (by rw [hask]; exact q2) ?_
            unfold joinD
            rw [hrd, if_neg (by show kCall ≠ kLoad; decide), if_neg (by show kCall ≠ kStore; decide), if_pos rfl, if_neg (by rw [hL]; omega), hL, show (((places P P.stmts.length : Nat) : Int) + (i : Int) - ((places P P.stmts.length : Nat) : Int)).toNat = i by omega, ← hF]
            unfold joinsF
            rw [if_pos hl]
            exact hp
          have hao : ∀ j, j < st.args.length → 0 ≤ st.args.getD j 0 ∧ st.args.getD j 0 < (P.vars.length : Int) := fun j hj => varB_parts (all_at k4 j 0 hj)
          have hn := putN_inv h F.params (givenD s st.args) st.args.length (fun j hj => hfo.ps j (by omega)) (fun j hj y hy => by
            rw [given_at s st.args j hj] at hy
            obtain ⟨a0, a1⟩ := hao j hj
            obtain ⟨A, hA⟩ : ∃ A : Nat, st.args.getD j 0 = (A : Int) := ⟨(st.args.getD j 0).toNat, by omega⟩
            rw [hA, Int.toNat_natCast] at hy
            obtain ⟨w1, w2⟩ := hval A (by omega) y hy
            refine ⟨w1, ?_⟩
            have hz := hjo _ (List.mem_append_left _ (zip_mem hl j hj))
            have := edge_of hcl hm hz (x := objR P s.places y)
            rw [hA] at this
            exact this w2)
          obtain ⟨R, hRt⟩ : ∃ R : Nat, F.ret = (R : Int) := ⟨F.ret.toNat, by have := hfo.r0; omega⟩
          have hRn : R < P.vars.length := by have := hfo.r1; omega
          rw [hRt, Int.toNat_natCast]
          refine hn.put (r := .var X) hXn rfl _ fun v hv2 => ?_
          obtain ⟨w1, w2⟩ := hn.has (.var R) hRn rfl v hv2
          refine ⟨w1, ?_⟩
          have hz := hjo (F.ret, (X : Int)) (List.mem_append_right _ (List.mem_singleton.2 rfl))
          rw [hRt] at hz
          exact edge_of hcl hm hz w2
        · rw [if_neg hl]; exact h
theorem Inv.done {P : ProgD} {L : List (List Int)} (hc : checkE P = none) (hS : SmallP P) (hL : L.length = places P P.stmts.length) (hcl : Cl P L) (zs : List Int) (hz : ∀ j, j < zs.length → 0 ≤ zs.getD j 0 ∧ zs.getD j 0 < (P.stmts.length : Int)) : Inv P L (doD P zs) := by
  have key : ∀ k, k ≤ zs.length → Inv P L (doD P (zs.take k)) := fun k => by
    induction k with
    | zero => intro _; exact Inv.start P L
    | succ k ih =>
      intro hk
      rw [doD_snoc P zs k (by omega)]
      have := hz k (by omega)
      exact (ih (by omega)).step hc hS hL hcl _ (by omega)
  have := key zs.length (Nat.le_refl _)
  rwa [List.take_length] at this
end Go.Proofs.YteekjigaicmohaaGreatDoor

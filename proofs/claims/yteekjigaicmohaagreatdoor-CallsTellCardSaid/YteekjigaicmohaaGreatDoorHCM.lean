/-
  COOPER and KENNEDY, plain: what a step changes is one of what it may change; what is idle changes nothing.
-/
import Derived.Test.YteekjigaicmohaaGreatDoorHAM
namespace Go.Proofs.YteekjigaicmohaaGreatDoor
open Go.RowKit Go.Extern.Stop Go.Stop Go.Extern

/-- The functions that statement k may call, by an answer. -/
def calledD (P : ProgD) (L : List (List Int)) (k : Nat) : List Nat :=
  if (P.stmts.getD k default).kind = kCall then (List.range P.funs.length).filter fun f : Nat => (setAt L (P.stmts.getD k default).y).contains (((L.length : Nat) : Int) + (f : Int)) && decide ((P.funs.getD f default).params.length = (P.stmts.getD k default).args.length) else []
/-- What statement k may change, by an answer, in some order. -/
def writesL (P : ProgD) (L : List (List Int)) (k : Nat) : List Int :=
  if (P.stmts.getD k default).kind = kStore then (setAt L (P.stmts.getD k default).x).filter fun o => decide (o < (L.length : Int))
  else if (P.stmts.getD k default).kind = kCall then (if (calledD P L k).isEmpty then [] else ((calledD P L k).flatMap fun f => (P.funs.getD f default).params) ++ [(P.stmts.getD k default).x])
  else [(P.stmts.getD k default).x]
/-- Can statement k do nothing, by an answer? -/
def idleB (P : ProgD) (L : List (List Int)) (k : Nat) : Bool :=
  if (P.stmts.getD k default).kind = kLoad then (setAt L (P.stmts.getD k default).y).all fun o => !decide (o < (L.length : Int))
  else if (P.stmts.getD k default).kind = kStore then (setAt L (P.stmts.getD k default).x).all fun o => !decide (o < (L.length : Int))
  else if (P.stmts.getD k default).kind = kCall then (calledD P L k).isEmpty
  else false
theorem putN_get {s : StD} (ps : List Int) (gs : List (Option Ref)) (n : Nat) (r : Ref) (h : ∀ j, j < n → r ≠ .var (ps.getD j 0).toNat) : (putN s ps gs n).get r = s.get r := by
  induction n with
  | zero => rfl
  | succ n ih =>
    show ((putN s ps gs n).put (.var (ps.getD n 0).toNat) (gs.getD n none)).get r = _
    rw [get_put_other (fun e => h n (Nat.lt_succ_self _) e.symm), ih (fun j hj => h j (by omega))]
/-- What a step changes. -/
theorem step_changes {P : ProgD} {L : List (List Int)} {s : StD} (hc : checkE P = none) (hS : SmallP P) (hL : L.length = places P P.stmts.length) (h : Inv P L s) (k : Nat) (hk : k < P.stmts.length) (r : Ref) (hr : r.ok P.vars.length P.funs.length s.things.length)
    (hne : (stepD P s k).get r ≠ s.get r) : objR P s.places r ∈ writesL P L k ∧ idleB P L k = false := by
  have hR := right_of hc
  obtain ⟨k1, k2, k3, k4, -⟩ := stmt_parts (hR.st _ (getDm hk))
  unfold stepD at hne
  have hcd : calledD P L k = if (P.stmts.getD k default).kind = kCall then (List.range P.funs.length).filter fun f : Nat => (setAt L (P.stmts.getD k default).y).contains (((L.length : Nat) : Int) + (f : Int)) && decide ((P.funs.getD f default).params.length = (P.stmts.getD k default).args.length) else [] := rfl
  unfold writesL idleB
  obtain ⟨st, hste⟩ : ∃ st, st = P.stmts.getD k default := ⟨_, rfl⟩
  rw [← hste] at k1 k2 k3 k4 hne hcd ⊢
  obtain ⟨x0, x1⟩ := varB_parts k2
  obtain ⟨X, hX⟩ : ∃ X : Nat, st.x = (X : Int) := ⟨st.x.toNat, by omega⟩
  have hXn : X < P.vars.length := by omega
  have yv : st.kind ≠ kFun → st.kind ≠ kNew → 0 ≤ st.y ∧ st.y < (P.vars.length : Int) := fun n1 n2 => by
    unfold yB at k3
    rw [if_neg (by simpa using n1), if_neg (by simpa using n2)] at k3
    exact varB_parts k3
  have hval : ∀ (Y : Nat), Y < P.vars.length → ∀ v, s.get (.var Y) = some v → v.ok P.vars.length P.funs.length s.things.length ∧ objR P s.places v ∈ setAt L (Y : Int) := fun Y hY v hv => h.has (.var Y) hY rfl v hv
  simp only [kinds, List.contains_cons, List.contains_nil, Bool.or_false, Bool.or_eq_true, beq_iff_eq] at k1
  have hcases : st.kind = kAddr ∨ st.kind = kCopy ∨ st.kind = kLoad ∨ st.kind = kStore ∨ st.kind = kNew ∨ st.kind = kFun ∨ st.kind = kCall := by
    rcases k1 with e | e | e | e | e | e | e <;> simp [e]
  have hvar : ∀ x : Option Ref, (s.put (.var X) x).get r ≠ s.get r → r = .var X := fun x hq => Classical.byContradiction fun e => hq (get_put_other (fun q => e q.symm))
  unfold doStmt at hne
  rw [hX, Int.toNat_natCast] at hne
  rw [hX]
  rcases hcases with e | e | e | e | e | e | e
  · rw [if_pos e] at hne
    rw [if_neg (by rw [e]; decide), if_neg (by rw [e]; decide), if_neg (by rw [e]; decide), if_neg (by rw [e]; decide), if_neg (by rw [e]; decide)]
    rw [hvar _ hne]
    exact ⟨List.mem_singleton.2 rfl, rfl⟩
  · rw [if_neg (by rw [e]; decide), if_pos e] at hne
    rw [if_neg (by rw [e]; decide), if_neg (by rw [e]; decide), if_neg (by rw [e]; decide), if_neg (by rw [e]; decide), if_neg (by rw [e]; decide)]
    rw [hvar _ hne]
    exact ⟨List.mem_singleton.2 rfl, rfl⟩
  · obtain ⟨y0, y1⟩ := yv (by rw [e]; decide) (by rw [e]; decide)
    obtain ⟨Y, hY⟩ : ∃ Y : Nat, st.y = (Y : Int) := ⟨st.y.toNat, by omega⟩
    rw [if_neg (by rw [e]; decide), if_neg (by rw [e]; decide), if_pos e, hY, Int.toNat_natCast] at hne
    rw [if_neg (by rw [e]; decide), if_neg (by rw [e]; decide), if_pos e, hY]
    cases hv : s.get (.var Y) with
    | none => rw [hv] at hne; exact absurd rfl hne
    | some q =>
      rw [hv] at hne
      have hne' : (if q.isFn then s else s.put (.var X) (s.get q)).get r ≠ s.get r := hne
      cases hqf : q.isFn with
      | true => rw [hqf] at hne'; exact absurd rfl hne'
      | false =>
        rw [hqf, if_neg (by decide)] at hne'
        obtain ⟨q1, q2⟩ := hval Y (by omega) q hv
        obtain ⟨z0, z1⟩ := h.node q1 hqf
        refine ⟨by rw [hvar _ hne']; exact List.mem_singleton.2 rfl, ?_⟩
        rw [List.all_eq_false]
        exact ⟨_, q2, by rw [hL]; simpa using z1⟩
  · obtain ⟨y0, y1⟩ := yv (by rw [e]; decide) (by rw [e]; decide)
    rw [if_neg (by rw [e]; decide), if_neg (by rw [e]; decide), if_neg (by rw [e]; decide), if_pos e] at hne
    rw [if_pos e, if_neg (by rw [e]; decide), if_pos e]
    cases hv : s.get (.var X) with
    | none => rw [hv] at hne; exact absurd rfl hne
    | some q =>
      rw [hv] at hne
      have hne' : (if q.isFn then s else s.put q (s.get (.var st.y.toNat))).get r ≠ s.get r := hne
      cases hqf : q.isFn with
      | true => rw [hqf] at hne'; exact absurd rfl hne'
      | false =>
        rw [hqf, if_neg (by decide)] at hne'
        obtain ⟨q1, q2⟩ := hval X hXn q hv
        obtain ⟨z0, z1⟩ := h.node q1 hqf
        have hrq : r = q := Classical.byContradiction fun e => hne' (get_put_other (fun q => e q.symm))
        rw [hrq]
        refine ⟨List.mem_filter.2 ⟨q2, by rw [hL]; simpa using z1⟩, ?_⟩
        rw [List.all_eq_false]
        exact ⟨_, q2, by rw [hL]; simpa using z1⟩
  · rw [if_neg (by rw [e]; decide), if_neg (by rw [e]; decide), if_neg (by rw [e]; decide), if_neg (by rw [e]; decide), if_pos e] at hne
    rw [if_neg (by rw [e]; decide), if_neg (by rw [e]; decide), if_neg (by rw [e]; decide), if_neg (by rw [e]; decide), if_neg (by rw [e]; decide)]
    have hrx : r = .var X := Classical.byContradiction fun e => hne (by rw [get_put_other (fun q => e q.symm), get_addT hr])
    rw [hrx]
    exact ⟨List.mem_singleton.2 rfl, rfl⟩
  · rw [if_neg (by rw [e]; decide), if_neg (by rw [e]; decide), if_neg (by rw [e]; decide), if_neg (by rw [e]; decide), if_neg (by rw [e]; decide), if_pos e] at hne
    rw [if_neg (by rw [e]; decide), if_neg (by rw [e]; decide), if_neg (by rw [e]; decide), if_neg (by rw [e]; decide), if_neg (by rw [e]; decide)]
    rw [hvar _ hne]
    exact ⟨List.mem_singleton.2 rfl, rfl⟩
  · obtain ⟨y0, y1⟩ := yv (by rw [e]; decide) (by rw [e]; decide)
    obtain ⟨Y, hY⟩ : ∃ Y : Nat, st.y = (Y : Int) := ⟨st.y.toNat, by omega⟩
    rw [if_neg (by rw [e]; decide), if_neg (by rw [e]; decide), if_neg (by rw [e]; decide), if_neg (by rw [e]; decide), if_neg (by rw [e]; decide), if_neg (by rw [e]; decide), hY, Int.toNat_natCast] at hne
    have e1 : ¬ st.kind = kLoad := by rw [e]; decide
    have e2 : ¬ st.kind = kStore := by rw [e]; decide
    rw [if_neg e2, if_pos e, if_neg e1, if_neg e2, if_pos e]
    rw [if_pos e] at hcd
    cases hv : s.get (.var Y) with
    | none => rw [hv] at hne; exact absurd rfl hne
    | some q =>
      rw [hv] at hne
      obtain ⟨q1, q2⟩ := hval Y (by omega) q hv
      cases q using ref_cases with
      | var i => exact absurd rfl hne
      | thing i => exact absurd rfl hne
      | fn i =>
        have hi : i < P.funs.length := q1
        have hfo := fun_ok hR hS i hi
        have hne' : (enterD (P.funs.getD i default) s X st.args).get r ≠ s.get r := hne
        unfold enterD at hne'
        by_cases hl : (P.funs.getD i default).params.length = st.args.length
        · rw [if_pos hl] at hne'
          have hm : i ∈ calledD P L k := by
            rw [hcd]
            refine List.mem_filter.2 ⟨List.mem_range.2 hi, ?_⟩
            rw [Bool.and_eq_true, decide_eq_true_iff, List.contains_iff_mem, hY, hL]
            exact ⟨q2, hl⟩
          have hem : (calledD P L k).isEmpty = false := by
            cases hq : calledD P L k with
            | nil => rw [hq] at hm; cases hm
            | cons a b => rfl
          rw [hem, if_neg (by decide)]
          refine ⟨?_, rfl⟩
          by_cases hrx : r = .var X
          · rw [hrx]
            exact List.mem_append_right _ (List.mem_singleton.2 rfl)
          · rw [get_put_other (fun q => hrx q.symm)] at hne'
            have hex : ∃ j, j < st.args.length ∧ r = .var ((P.funs.getD i default).params.getD j 0).toNat := Classical.byContradiction fun hno => hne' (putN_get _ _ _ r fun j hj q => hno ⟨j, hj, q⟩)
            obtain ⟨j, hj, hrj⟩ := hex
            refine List.mem_append_left _ (List.mem_flatMap.2 ⟨i, hm, ?_⟩)
            rw [hrj]
            have hp := hfo.ps j (by omega)
            show ((((P.funs.getD i default).params.getD j 0).toNat : Nat) : Int) ∈ _
            rw [show ((((P.funs.getD i default).params.getD j 0).toNat : Nat) : Int) = (P.funs.getD i default).params.getD j 0 by omega]
            have hjp : j < (P.funs.getD i default).params.length := by omega
            have hgm : ∀ (l : List Int) (j : Nat), j < l.length → l.getD j 0 ∈ l := fun l j hj => by simp [List.getD, hj]
            exact hgm _ j hjp
        · rw [if_neg hl] at hne'; exact absurd rfl hne'
end Go.Proofs.YteekjigaicmohaaGreatDoor

/-
  RunParts answers true at every program and script that read as plain data: first what is plain.
-/
import Derived.Test.YteekjigaicmohaaGreatDoorRKM
import Derived.Test.YteekjigaicmohaaGreatDoorPZ2M
namespace Go.Proofs.YteekjigaicmohaaGreatDoor
open Go.RowKit Go.Extern.Stop Go.Stop Go.Extern

def isNew (P : ProgD) (z : Int) : Bool := (P.stmts.getD z.toNat default).kind == kNew
/-- The places of the things that a script makes, in order. -/
def newF (P : ProgD) (zs : List Int) : List Int := zs.filter (isNew P)
theorem newF_snoc (P : ProgD) (zs : List Int) (k : Nat) (h : k < zs.length) : newF P (zs.take (k + 1)) = newF P (zs.take k) ++ (if isNew P (zs.getD k 0) then [zs.getD k 0] else []) := by
  unfold newF
  rw [take_snoc zs 0 k h, List.filter_append]
  congr 1
  by_cases e : isNew P (zs.getD k 0) = true
  · rw [if_pos e, List.filter_cons_of_pos e, List.filter_nil]
  · rw [if_neg e, List.filter_cons_of_neg e, List.filter_nil]
theorem do_places (P : ProgD) (zs : List Int) (h : ∀ j, j < zs.length → 0 ≤ zs.getD j 0) (k : Nat) (hk : k ≤ zs.length) : (doD P (zs.take k)).places = newF P (zs.take k) ∧ (doD P (zs.take k)).things.length = (newF P (zs.take k)).length := by
  induction k with
  | zero => simp [doD, st0, newF]
  | succ k ih =>
    obtain ⟨i1, i2⟩ := ih (by omega)
    obtain ⟨s1, s2⟩ := step_places P (doD P (zs.take k)) (zs.getD k 0).toNat
    rw [doD_snoc P zs k (by omega), s1, s2, i1, i2, newF_snoc P zs k (by omega)]
    have h0 := h k (by omega)
    have hz : ((zs.getD k 0).toNat : Int) = zs.getD k 0 := by omega
    by_cases e : (P.stmts.getD (zs.getD k 0).toNat default).kind = kNew
    · have e' : isNew P (zs.getD k 0) = true := by unfold isNew; rw [e]; decide
      rw [if_pos e, if_pos e, if_pos e', hz]; simp
    · have e' : ¬ isNew P (zs.getD k 0) = true := by unfold isNew; simpa using e
      rw [if_neg e, if_neg e, if_neg e']; simp
theorem newF_split (P : ProgD) (zs : List Int) (k : Nat) : newF P zs = newF P (zs.take k) ++ newF P (zs.drop k) := by
  unfold newF
  rw [← List.filter_append, List.take_append_drop]
theorem newF_le (P : ProgD) (zs : List Int) (k : Nat) : (newF P (zs.take k)).length ≤ (newF P zs).length := by
  rw [newF_split P zs k]; simp
theorem newF_take (P : ProgD) (zs : List Int) (k : Nat) : (newF P zs).take (newF P (zs.take k)).length = newF P (zs.take k) := by
  rw [newF_split P zs k]; simp
theorem newF_at (P : ProgD) (zs : List Int) (k : Nat) (hk : k < zs.length) (e : isNew P (zs.getD k 0) = true) : (newF P (zs.take k)).length < (newF P zs).length ∧ (newF P zs).getD (newF P (zs.take k)).length 0 = zs.getD k 0 := by
  have h1 := newF_le P zs (k + 1)
  have h2 := newF_snoc P zs k hk
  rw [if_pos e] at h2
  have h3 : (newF P (zs.take (k + 1))).length = (newF P (zs.take k)).length + 1 := by rw [h2]; simp
  refine ⟨by omega, ?_⟩
  rw [newF_split P zs (k + 1), h2]
  simp [List.getD]
theorem newF_len (P : ProgD) (zs : List Int) : (newF P zs).length ≤ zs.length := List.length_filter_le _ _
theorem doneE_take {n : Nat} {zs : List Int} (h : doneE n zs = none) (k : Nat) : doneE n (zs.take k) = none := by
  obtain ⟨h1, h2⟩ := doneE_none h
  unfold doneE
  rw [if_neg (by simp; omega)]
  refine scriptE_all n (zs.take k) 0 (fun j hj => ?_)
  have hj' : j < zs.length := by simp at hj; omega
  have : (zs.take k).getD j 0 = zs.getD j 0 := by simp [List.getD] at hj ⊢; rw [List.getElem?_take_of_lt (by omega)]
  rw [this]
  exact h2 j hj'

/-- What Do tells: what was done, or an error; in memory from B on. -/
structure DoPost (w : World) (B : Nat) (P : ProgD) (zs : List Int) (a1 : Option Addr) (m1 c1 : Nat) (a2 : Option Addr) (m2 c2 : Nat) (a3 : Option Addr) (m3 c3 : Nat) (ev : Value) : Prop where
  is : ((runE P zs).isNone = true ∧ ev = .nilIface ∧ IsVals w (.slice a1 m1 c1) (doD P zs).vars ∧ IsVals w (.slice a2 m2 c2) (doD P zs).things ∧ IsCap w (.slice a3 m3 c3) (doD P zs).places) ∨ ((runE P zs).isNone = false ∧ ∃ t x, ev = .iface t (.pointer (some x)))
  l1 : LowO B a1
  l2 : LowO B a2
  l3 : LowO B a3
theorem DoPost.below {w w' : World} {B : Nat} {P : ProgD} {zs : List Int} {a1 : Option Addr} {m1 c1 : Nat} {a2 : Option Addr} {m2 c2 : Nat} {a3 : Option Addr} {m3 c3 : Nat} {ev : Value} (h : DoPost w B P zs a1 m1 c1 a2 m2 c2 a3 m3 c3 ev) (hb : Below w.heap.size w w') : DoPost w' B P zs a1 m1 c1 a2 m2 c2 a3 m3 c3 ev := by
  refine ⟨?_, h.l1, h.l2, h.l3⟩
  rcases h.is with ⟨h1, h2, h3, h4, h5⟩ | h
  · exact Or.inl ⟨h1, h2, h3.below hb, h4.below hb, h5.below hb⟩
  · exact Or.inr h
theorem DoPost.set {w : World} {B : Nat} {P : ProgD} {zs : List Int} {a1 : Option Addr} {m1 c1 : Nat} {a2 : Option Addr} {m2 c2 : Nat} {a3 : Option Addr} {m3 c3 : Nat} {ev : Value} (h : DoPost w B P zs a1 m1 c1 a2 m2 c2 a3 m3 c3 ev) {b i : Nat} {x : Value} (hb : b < B) : DoPost (w.setCell ⟨b, i, none⟩ x) B P zs a1 m1 c1 a2 m2 c2 a3 m3 c3 ev := by
  refine ⟨?_, h.l1, h.l2, h.l3⟩
  rcases h.is with ⟨h1, h2, h3, h4, h5⟩ | h'
  · refine Or.inl ⟨h1, h2, ?_, ?_, ?_⟩
    · have h3' := h3
      obtain ⟨g, c, e, _⟩ := h3
      cases e
      exact h3'.set (by have := h.l1 g 0 rfl; omega)
    · have h4' := h4
      obtain ⟨g, c, e, _⟩ := h4
      cases e
      exact h4'.set (by have := h.l2 g 0 rfl; omega)
    · exact h5.set (fun g o q => by have := h.l3 g o q; omega)
  · exact Or.inr h'
theorem runE_in {P : ProgD} {zs : List Int} (h : (runE P zs).isNone = true) : checkE P = none ∧ doneE P.stmts.length zs = none := by
  unfold runE at h
  cases e : checkE P with
  | some x => rw [e] at h; cases h
  | none =>
    rw [e] at h
    exact ⟨rfl, Option.isNone_iff_eq_none.1 h⟩
theorem runE_of {P : ProgD} {zs : List Int} (h1 : checkE P = none) (h2 : doneE P.stmts.length zs = none) : (runE P zs).isNone = true := by
  unfold runE
  rw [h1, h2]; rfl
theorem do_any (a : Nat → Addr) (P : ProgD) (v1 v2 v3 v : Value) (zs : List Int) (w : World) (hs : SmallP P) (h : IsProg w v1 v2 v3 P) (hE : Errs5 w a) (hz : IsInts w v zs) (hm : zs.length ≤ 1000000) :
    Calls Tryz.prog 37 #[.agg #[v1, v2, v3], v] w fun e w' => ∃ a1 m1 c1 a2 m2 c2 a3 m3 c3 ev, e = .returned (.tuple #[.agg #[.slice a1 m1 c1, .slice a2 m2 c2, .slice a3 m3 c3], ev]) ∧ DoPost w' w.heap.size P zs a1 m1 c1 a2 m2 c2 a3 m3 c3 ev ∧ Below w.heap.size w w' := by
  cases hc : checkE P with
  | some x =>
    refine (do_bad1 a P v1 v2 v3 v w hs h hE (by rw [hc]; rfl)).mono ?_
    rintro e w' ⟨ev, rfl, hv, hb⟩
    refine ⟨_, _, _, _, _, _, _, _, _, ev, rfl, ⟨Or.inr ⟨by unfold runE; rw [hc]; rfl, ?_⟩, (fun _ _ q => by cases q), (fun _ _ q => by cases q), (fun _ _ q => by cases q)⟩, hb⟩
    rw [hc] at hv
    rcases hv.cases with ⟨q, _⟩ | ⟨_, q⟩
    · cases q
    · exact q
  | none =>
    cases hd : doneE P.stmts.length zs with
    | some x =>
      refine (do_bad2 a P v1 v2 v3 v zs w hs h hE hz hm hc (by rw [hd]; rfl)).mono ?_
      rintro e w' ⟨ev, rfl, hv, hb⟩
      refine ⟨_, _, _, _, _, _, _, _, _, ev, rfl, ⟨Or.inr ⟨by unfold runE; rw [hc, hd]; rfl, ?_⟩, (fun _ _ q => by cases q), (fun _ _ q => by cases q), (fun _ _ q => by cases q)⟩, hb⟩
      rw [hd] at hv
      rcases hv.cases with ⟨q, _⟩ | ⟨_, q⟩
      · cases q
      · exact q
    | none =>
      refine (do_ok a P v1 v2 v3 v zs w hs h hE hz hm hc hd).mono ?_
      rintro e w' ⟨a1, m1, c1, a2, m2, c2, a3, m3, c3, rfl, q1, q2, q3, l1, l2, l3, hb⟩
      exact ⟨a1, m1, c1, a2, m2, c2, a3, m3, c3, _, rfl, ⟨Or.inl ⟨runE_of hc hd, rfl, q1, q2, q3⟩, l1, l2, l3⟩, hb⟩
end Go.Proofs.YteekjigaicmohaaGreatDoor

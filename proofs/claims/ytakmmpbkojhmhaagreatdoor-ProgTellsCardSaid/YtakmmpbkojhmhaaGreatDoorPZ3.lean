/-
  prog.Text of a program that is not right: empty. prog.bare.
-/
import Derived.Test.YtakmmpbkojhmhaaGreatDoorPO
namespace Go.Proofs.YtakmmpbkojhmhaaGreatDoor
open Go.RowKit Go.Extern.Stop Go.Stop Go.Extern

theorem text_no (a : Nat → Addr) (P : ProgD) (v1 v2 v3 : Value) (w : World) (hs : SmallP P) (h : IsProg w v1 v2 v3 P) (hE : Errs5 w a) (hc : (checkE P).isNone = false) :
    Calls Tryz.prog 29 #[.agg #[v1, v2, v3]] w fun e w' => e = .returned (.string (S [])) ∧ Below w.heap.size w w' := by
  have H : Hid (IsProg w v1 v2 v3 P) := h
  have HE : Hid (Errs5 w a) := hE
  have HC : Hid ((checkE P).isNone = false) := hc
  obtain ⟨⟨a1, c1, rfl, -, -⟩, ⟨a2, c2, rfl, -, -⟩, ⟨a3, c3, rfl, -, -⟩⟩ := h
  clear hE hc
  have HS : Hid (SmallP P) := hs
  clear hs
  go_enter Tryz.func29, Tryz.ntmps29
  go_wp2_with fail
  refine (check_any a P _ _ _ _ HS.out (H.out.below (below1 w _)) (HE.out.below (below1 w _))).mono ?_
  rintro e w1 ⟨v', rfl, hv, hB1⟩
  have hBw : Below w.heap.size w w1 := (below1 w _).trans (hB1.mono (below1 w _).size)
  rcases hv.cases with ⟨h1, rfl⟩ | ⟨h1, t, x, rfl⟩
  · rw [HC.out] at h1; cases h1
  clear hv hB1 h1
  go_wp2_with fail
  go_ret
  exact ⟨rfl, hBw⟩

/-- Nine of the errors, and errors.errorType. -/
structure ErrsT (w : World) (a : Nat → Addr) : Prop where
  five : Errs5 w a
  et : w.cell? ⟨11, 0, none⟩ = some (.iface 164 (.agg #[.pointer (some ⟨18, 27, none⟩)]))
theorem ErrsT.below {w w' : World} {a : Nat → Addr} (h : ErrsT w a) (hb : Below w.heap.size w w') : ErrsT w' a := ⟨h.five.below hb, cell_keep hb h.et⟩
theorem ErrsT.alloc {w : World} {a : Nat → Addr} (h : ErrsT w a) (o : Obj) : ErrsT (w.alloc o) a := h.below (below1 w o)
theorem Errs.top {w : World} {a : Nat → Addr} (h : Errs w a) : ErrsT w a := ⟨h.five, h.et⟩

/-- bare: the place is taken away. -/
theorem bare_any (a : Nat → Addr) (e : ErrD) (v : Value) (w : World) (hv : ErrV w a e v) (hn : e ≠ none) (hE : ErrsT w a) :
    Calls Tryz.prog 79 #[v] w fun r w' => ∃ i n, e = some (i, n) ∧ r = .returned (.iface 231 (.pointer (some (a i)))) ∧ Below w.heap.size w w' := by
  have H : Hid (ErrsT w a) := hE
  clear hE
  rcases hv with ⟨rfl, _⟩ | ⟨i, rfl, rfl⟩ | ⟨i, n, b, o, rfl, _, rfl, h1, h2⟩
  · exact absurd rfl hn
  · go_enter Tryz.func79, Tryz.ntmps79
    go_wp2_with (go_at_call 85; refine (as_miss _ _ _ ?_).mono ?_; exact (ErrsT.alloc H.out _).et; rintro e w' ⟨rfl, rfl⟩)
    go_ret
    refine ⟨i, -1, rfl, rfl, ?_⟩
    repeat (first
      | exact Below.refl _ _
      | refine Below.drew ?_
      | refine Below.alloc ?_ (by simp; try omega) _)
  · have hat1 : ∀ o1 o2 o3 o4 o5, (((((w.alloc o1).alloc o2).alloc o3).alloc o4).alloc o5).cell? ⟨b, o + 1, none⟩ = some (.iface 231 (.pointer (some (a i)))) := fun o1 o2 o3 o4 o5 => cell_keep (((((((Below.refl _ w).alloc (Nat.le_refl _) o1).alloc (by simp) o2).alloc (by simp; omega) o3).alloc (by simp; omega) o4).alloc (by simp; omega) o5)) h2
    have hz : b < w.heap.size := lt_of_cell h2
    clear h1 h2
    go_enter Tryz.func79, Tryz.ntmps79
    go_wp2_with (go_at_call 85; refine (as_hit ⟨b, o, none⟩ ⟨w.heap.size, 0, none⟩ (.pointer none) _ ?_ ?_ ?_).mono ?_; exact (ErrsT.alloc H.out _).et; simp; simp; rintro e w' ⟨rfl, rfl⟩)
    go_ret
    refine ⟨i, n, rfl, rfl, ?_⟩
    repeat (first
      | exact Below.refl _ _
      | refine Below.drew ?_
      | refine Below.alloc ?_ (by simp; try omega) _)
end Go.Proofs.YtakmmpbkojhmhaaGreatDoor

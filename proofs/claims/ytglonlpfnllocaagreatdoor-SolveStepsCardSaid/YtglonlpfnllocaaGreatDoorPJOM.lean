/-
  Package prog: Objects, by a contract.
-/
import Derived.Test.YtglonlpfnllocaaGreatDoorPJM
namespace Go.Proofs.YtglonlpfnllocaaGreatDoor
open Go.RowKit Go.Extern.Stop Go.Stop Go.Extern

set_option maxHeartbeats 2000000 in
theorem objects_any (a : Nat → Addr) (P : ProgD) (v1 v2 v3 : Value) (w : World) (hs : SmallP P) (h : IsProg w v1 v2 v3 P) (hE : Errs5 w a) :
    Calls Tryz.prog 118 #[.agg #[v1, v2, v3]] w fun e w' => e = .returned (.int .i64 (objD P)) ∧ Below w.heap.size w w' := by
  have H : Hid (IsProg w v1 v2 v3 P) := h
  have HE : Hid (Errs5 w a) := hE
  have HS : Hid (SmallP P) := hs
  obtain ⟨⟨a1, c1, rfl, -, -⟩, ⟨a2, c2, rfl, -, -⟩, ⟨a3, c3, rfl, -, -⟩⟩ := h
  have hpl := places_le P P.stmts.length
  have hs1 := hs.1
  have hs2 := hs.2.1
  have hs3 := hs.2.2.1
  clear hE hs
  obtain ⟨E, hEe⟩ : ∃ E, E = (checkE P).isNone := ⟨_, rfl⟩
  obtain ⟨F, hF⟩ : ∃ F, F = places P P.stmts.length := ⟨_, rfl⟩
  obtain ⟨R, hRe⟩ : ∃ R, R = objD P := ⟨_, rfl⟩
  rw [← hRe]
  rw [← hF] at hpl
  have QE : Hid (E = (checkE P).isNone) := hEe
  have QF : Hid (F = places P P.stmts.length) := hF
  have QR : Hid (R = objD P) := hRe
  clear hEe hF hRe
  go_enter Tryz.func118, Tryz.ntmps118
  go_wp2_with fail
  refine (check_any a P _ _ _ _ HS.out (H.out.below (below1 w _)) (HE.out.below (below1 w _))).mono ?_
  rintro e w1 ⟨v', rfl, hv, hB1⟩
  have hBw : Below w.heap.size w w1 := (below1 w _).trans (hB1.mono (below1 w _).size)
  have hbx := (box3_new w (.slice a1 P.vars.length c1) (.slice a2 P.funs.length c2) (.slice a3 P.stmts.length c3) 26).below hB1
  have HBX : Hid (Box3 w1 w.heap.size (.slice a1 P.vars.length c1) (.slice a2 P.funs.length c2) (.slice a3 P.stmts.length c3)) := hbx
  obtain ⟨b0, b1, b2⟩ := hbx
  rcases hv.cases with ⟨h1, rfl⟩ | ⟨h1, t, x, rfl⟩
  · rw [← QE.out] at h1
    subst h1
    clear hv hB1
    have hX : Hid (R = (F : Int) + (P.funs.length : Int)) := by show R = _; rw [QR.out, QF.out]; exact objD_in QE.out
    have hwr : IntKind.i64.wrap ((F : Int) + (P.funs.length : Int)) = (F : Int) + (P.funs.length : Int) := by rw [IntKind.wrap_i64]; omega
    have CP : Hid (∀ wx, Below w1.heap.size w1 wx → Calls Tryz.prog 60 #[.agg #[.slice a1 P.vars.length c1, .slice a2 P.funs.length c2, .slice a3 P.stmts.length c3], .int .i64 (P.stmts.length : Int)] wx fun e w' => e = .returned (.int .i64 (F : Int)) ∧ Below w1.heap.size w1 w' ∧ w'.cell? ⟨w.heap.size, 1, none⟩ = some (.slice a2 P.funs.length c2)) := fun wx hb => by
      refine (places_any P P.stmts.length _ _ _ wx HS.out ((H.out.below hBw).below hb) (Nat.le_refl _)).mono ?_
      rintro e w2 ⟨rfl, hB2⟩
      exact ⟨by rw [QF.out], hb.trans (hB2.mono hb.size), cell_keep hB2 (cell_keep hb HBX.out.2.1)⟩
    clear QR
    go_wp2_with fail
    go_region_with (go_at_call 60; refine (CP.out _ ?_).mono ?_; exact (Below.refl _ w1).drew; rintro e w' ⟨rfl, hB, q1⟩)
    all_goals (go_wp2_with fail; go_ret)
    all_goals exact ⟨by rw [hX.out]; rfl, hBw.trans (hB.mono hBw.size)⟩
  · rw [← QE.out] at h1
    subst h1
    clear hv hB1
    have hX : Hid (R = 0) := by show R = 0; rw [QR.out]; exact objD_no QE.out
    clear QR
    go_wp2_with fail
    go_ret
    exact ⟨by rw [hX.out]; rfl, hBw⟩
end Go.Proofs.YtglonlpfnllocaaGreatDoor

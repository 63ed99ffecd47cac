/-
  Package prog: Place, by a contract.
-/
import Derived.Test.YteekjigaicmohaaGreatDoorPJM
namespace Go.Proofs.YteekjigaicmohaaGreatDoor
open Go.RowKit Go.Extern.Stop Go.Stop Go.Extern

set_option maxHeartbeats 2000000 in
theorem place_any (a : Nat → Addr) (P : ProgD) (k : Int) (v1 v2 v3 : Value) (w : World) (hs : SmallP P) (h : IsProg w v1 v2 v3 P) (hE : Errs5 w a) :
    Calls Tryz.prog 83 #[.agg #[v1, v2, v3], .int .i64 k] w fun e w' => e = .returned (.int .i64 (placeD P k)) ∧ Below w.heap.size w w' := by
  have H : Hid (IsProg w v1 v2 v3 P) := h
  have HE : Hid (Errs5 w a) := hE
  have HS : Hid (SmallP P) := hs
  obtain ⟨⟨a1, c1, rfl, -, -⟩, ⟨a2, c2, rfl, -, -⟩, ⟨a3, c3, rfl, -, -⟩⟩ := h
  clear hE hs
  obtain ⟨E, hEe⟩ : ∃ E, E = (checkE P).isNone := ⟨_, rfl⟩
  obtain ⟨R, hRe⟩ : ∃ R, R = placeD P k := ⟨_, rfl⟩
  rw [← hRe]
  have QE : Hid (E = (checkE P).isNone) := hEe
  have QR : Hid (R = placeD P k) := hRe
  clear hEe hRe
  go_enter Tryz.func83, Tryz.ntmps83
  go_wp2_with fail
  refine (check_any a P _ _ _ _ HS.out (H.out.below (below1 w _)) (HE.out.below (below1 w _))).mono ?_
  rintro e w1 ⟨v', rfl, hv, hB1⟩
  have hBw : Below w.heap.size w w1 := (below1 w _).trans (hB1.mono (below1 w _).size)
  have hbx := (box3_new w (.slice a1 P.vars.length c1) (.slice a2 P.funs.length c2) (.slice a3 P.stmts.length c3) 26).below hB1
  obtain ⟨b0, b1, b2⟩ := hbx
  rcases hv.cases with ⟨h1, rfl⟩ | ⟨h1, t, x, rfl⟩
  · rw [← QE.out] at h1
    subst h1
    clear hv hB1
    by_cases g0 : k < 0
    · have hX : Hid (R = -1) := by show R = -1; rw [QR.out]; exact placeD_out QE.out (by omega)
      clear QR
      go_wp2_with fail
      go_ret
      exact ⟨by rw [hX.out]; rfl, hBw⟩
    by_cases g1 : (P.stmts.length : Int) ≤ k
    · have hX : Hid (R = -1) := by show R = -1; rw [QR.out]; exact placeD_out QE.out (by omega)
      clear QR
      go_wp2_with fail
      go_ret
      exact ⟨by rw [hX.out]; rfl, hBw⟩
    obtain ⟨j, rfl⟩ : ∃ j : Nat, k = (j : Int) := ⟨k.toNat, by omega⟩
    have hl : j < P.stmts.length := by omega
    obtain ⟨_, _, hv3, _, hst3⟩ := (H.out.below hBw).stmts
    obtain ⟨b, o, ha3, e0⟩ := hst3 j hl
    obtain rfl : a3 = some ⟨b, o, none⟩ := by rw [← ha3]; exact (Value.slice.inj hv3).1
    obtain ⟨z, hze⟩ : ∃ z, z = P.stmts.getD j default := ⟨_, rfl⟩
    rw [← hze] at e0
    have HZE : Hid (z = P.stmts.getD j default) := hze
    obtain ⟨pv, q1, q2, q3, q4, -, pa, pc, rfl, -⟩ := e0
    obtain ⟨kb, hkb⟩ : ∃ kb, kb = S z.kind := ⟨_, rfl⟩
    rw [← hkb] at q1
    have HKB : Hid (kb = S z.kind) := hkb
    clear hkb hv3 hst3 ha3 hze q2 q3 q4 g0 g1
    by_cases hn : kb.toList = [110, 101, 119]
    · have hX : Hid (R = (places P j : Nat)) := by
        show R = _
        have : z.kind = kNew := by rw [← S_toList z.kind, ← HKB.out]; exact hn
        rw [QR.out, placeD_in QE.out ⟨by omega, by omega, by rw [Int.toNat_natCast, ← HZE.out]; exact this⟩, Int.toNat_natCast]
      clear QR HKB
      go_wp2_with fail
      refine (places_any P j _ _ _ w1 HS.out (H.out.below hBw) (by omega)).mono ?_
      rintro e w2 ⟨rfl, hB2⟩
      have hBx := hBw.trans (hB2.mono hBw.size)
      clear hB2
      go_wp2_with fail
      go_ret
      exact ⟨by rw [hX.out]; rfl, hBx⟩
    · have hX : Hid (R = -1) := by
        show R = -1
        have : z.kind ≠ kNew := fun e => hn (by rw [HKB.out, S_toList, e]; rfl)
        rw [QR.out]; exact placeD_out QE.out (fun g => this (by have := g.2.2; rw [Int.toNat_natCast, ← HZE.out] at this; exact this))
      have hg : (kb.toList == [110, 101, 119]) = false := beq_eq_false_iff_ne.2 hn
      clear QR HKB
      go_wp2_with fail
      go_ret
      exact ⟨by rw [hX.out]; rfl, hBw⟩
  · rw [← QE.out] at h1
    subst h1
    clear hv hB1
    have hX : Hid (R = -1) := by show R = -1; rw [QR.out]; exact placeD_no QE.out
    clear QR
    go_wp2_with fail
    go_ret
    exact ⟨by rw [hX.out]; rfl, hBw⟩
end Go.Proofs.YteekjigaicmohaaGreatDoor

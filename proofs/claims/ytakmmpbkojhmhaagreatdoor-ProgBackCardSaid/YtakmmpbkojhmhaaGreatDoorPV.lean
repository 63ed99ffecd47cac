/-
  Package prog: readVar, by a contract.
-/
import Derived.Test.YtakmmpbkojhmhaaGreatDoorPU
import Derived.Test.YtakmmpbkojhmhaaGreatDoorPMem
namespace Go.Proofs.YtakmmpbkojhmhaaGreatDoor
open Go.RowKit Go.Extern.Stop Go.Stop Go.Extern

set_option maxRecDepth 100000 in
set_option maxHeartbeats 4000000 in
theorem readVar_any (a : Nat → Addr) (B pb : Nat) (P : ProgD) (s : Bs) (v1 v2 v3 : Value) (ps qs : List Value) (w : World) (hst : St w B pb P v1 v2 v3 ps qs) (hl : P.vars.length ≤ 100000) (hz : s.length ≤ 100000) (hE : Errs5 w a) :
    Calls Tryz.prog 145 #[.pointer (some ⟨pb, 0, none⟩), .string (S s)] w fun e w' => Does a B pb w w' (readVarD P s) e := by
  have HST : Hid (St w B pb P v1 v2 v3 ps qs) := hst
  have K1 : Hid (∀ wx, Calls Tryz.prog 100 #[.string (S s)] wx fun e w' => e = .returned (.bool (isNm s)) ∧ w' = wx) := fun wx => isName_any s wx
  have K2 : Hid (∀ wx, Below w.heap.size w wx → Calls Tryz.prog 176 #[.string (S s)] wx fun e w' => e = .returned (.string (S s)) ∧ Below w.heap.size w w') := fun wx hb => (clone_any (S s) wx (by rw [S_size]; omega)).mono fun e w' h => ⟨h.1, hb.trans (h.2.mono hb.size)⟩
  obtain ⟨c0, c1, c2⟩ := hst.cells
  obtain ⟨a1, n1, rfl⟩ := owns_form hst.o1
  obtain ⟨a2, n2, rfl⟩ := owns_form hst.o2
  obtain ⟨a3, n3, rfl⟩ := owns_form hst.o3
  have e0 := hE.c0
  have HB : Hid (∀ wx, Below w.heap.size w wx → Below B w wx) := fun wx h => h.mono hst.size
  have HX : Hid ((isNm s = false ∨ 0 < P.funs.length ∨ 0 < P.stmts.length) → readVarD P s = (P, some 0)) := fun h => by
    unfold readVarD
    rw [if_pos]
    rcases h with h | h | h
    · rw [h]; rfl
    · rw [show P.funs.isEmpty = false by rw [List.isEmpty_eq_false_iff]; intro q; rw [q] at h; exact absurd h (by decide)]; simp
    · rw [show P.stmts.isEmpty = false by rw [List.isEmpty_eq_false_iff]; intro q; rw [q] at h; exact absurd h (by decide)]; simp
  have HY : Hid (isNm s = true → P.funs.length = 0 → P.stmts.length = 0 → readVarD P s = ({ P with vars := P.vars ++ [s] }, none)) := fun h1 h2 h3 => by
    unfold readVarD
    rw [if_neg]
    rw [h1, List.eq_nil_of_length_eq_zero h2, List.eq_nil_of_length_eq_zero h3]; decide
  have hpb : pb < w.heap.size := (Array.getElem?_eq_some_iff.1 hst.blk).1
  obtain ⟨m1, hm1⟩ : ∃ m, m = P.vars.length := ⟨_, rfl⟩
  obtain ⟨m2, hm2⟩ : ∃ m, m = P.funs.length := ⟨_, rfl⟩
  obtain ⟨m3, hm3⟩ : ∃ m, m = P.stmts.length := ⟨_, rfl⟩
  have HMM : Hid (m1 = P.vars.length ∧ m2 = P.funs.length ∧ m3 = P.stmts.length) := ⟨hm1, hm2, hm3⟩
  rw [← hm1] at c0 hl
  rw [← hm2] at c1
  rw [← hm3] at c2
  rw [← hm1, ← hm2, ← hm3] at HST
  clear hm1 hm2 hm3
  obtain ⟨bs, hbs⟩ : ∃ b, b = S s := ⟨_, rfl⟩
  have HBS : Hid (bs = S s) := hbs
  rw [← hbs] at K1 K2 ⊢
  clear hbs hst hE
  cases hD : isNm s with
  | false =>
    have hX : Hid (readVarD P s = (P, some 0)) := HX.out (Or.inl hD)
    rw [hD] at K1
    clear HX HY hD
    go_enter Tryz.func145, Tryz.ntmps145
    go_wp2_with fail
    refine (K1.out _).mono ?_
    rintro e w1 ⟨rfl, hw⟩
    obtain rfl := hw.symm
    clear hw
    go_wp2_with fail
    go_ret
    rw [hX.out]
    exact ⟨rfl, ⟨_, _, _, _, _, HST.out⟩, Below.refl _ _⟩
  | true =>
    rw [hD] at K1
    by_cases g2 : 0 < (m2 : Int)
    · have hX : Hid (readVarD P s = (P, some 0)) := HX.out (Or.inr (Or.inl (by have := HMM.out; omega)))
      clear HX HY hD
      go_enter Tryz.func145, Tryz.ntmps145
      go_wp2_with fail
      refine (K1.out _).mono ?_
      rintro e w1 ⟨rfl, hw⟩
      obtain rfl := hw.symm
      clear hw
      go_wp2_with fail
      go_ret
      rw [hX.out]
      exact ⟨rfl, ⟨_, _, _, _, _, HST.out⟩, Below.refl _ _⟩
    by_cases g3 : 0 < (m3 : Int)
    · have hX : Hid (readVarD P s = (P, some 0)) := HX.out (Or.inr (Or.inr (by have := HMM.out; omega)))
      clear HX HY hD
      go_enter Tryz.func145, Tryz.ntmps145
      go_wp2_with fail
      refine (K1.out _).mono ?_
      rintro e w1 ⟨rfl, hw⟩
      obtain rfl := hw.symm
      clear hw
      go_wp2_with fail
      go_ret
      rw [hX.out]
      exact ⟨rfl, ⟨_, _, _, _, _, HST.out⟩, Below.refl _ _⟩
    have hX : Hid (readVarD P s = ({ P with vars := P.vars ++ [s] }, none)) := HY.out hD (by have := HMM.out; omega) (by have := HMM.out; omega)
    have HA : Hid (∀ wx, Below w.heap.size w wx → ∃ v' w', (Builtin.append_ #[39, 39] 39 #[.slice a1 m1 n1, .slice (some ⟨wx.heap.size, 0, none⟩) 1 1]).run Tryz.prog (wx.alloc (.cells #[.string bs] 9)) = .ok v' w' ∧
      w'.cell? ⟨pb, 0, none⟩ = some (.slice a1 m1 n1) ∧ w'.frozen? ⟨pb, 0, none⟩ = false ∧ (∃ a n c, v' = .slice a n c) ∧ St (w'.setCell ⟨pb, 0, none⟩ v') B pb { P with vars := P.vars ++ [s] } v' (.slice a2 m2 n2) (.slice a3 m3 n3) ps qs ∧ Below B w (w'.setCell ⟨pb, 0, none⟩ v')) := fun wx hb => by
      obtain ⟨v', w', h1, h2, h3, h4, h5, h6⟩ := (HST.out.below hb).addVar (by have := HMM.out; omega) s
      rw [← HBS.out] at h1
      exact ⟨v', w', h1, h2, h3, h4, h5, (HB.out wx hb).trans h6⟩
    clear HX HY hD HB
    go_enter Tryz.func145, Tryz.ntmps145
    go_wp2_with fail
    refine (K1.out _).mono ?_
    rintro e w1 ⟨rfl, hw⟩
    obtain rfl := hw.symm
    clear hw K1
    go_wp2_with fail
    go_region_law first
      | (refine step_append_run rfl (.tmp 29) (.tmp 32) _ _ rfl _ _ rfl rfl _ _ hr ?_)
      | (refine step_calls rfl 176 #[.string bs] (by go_simp) _ (K2.out _ (Below.refl _ w).drew) ?_; rintro e wc ⟨rfl, hBc⟩; refine ⟨_, rfl, ?_⟩; obtain ⟨v', w2, hr, d0, d1, ⟨xa, xn, xc, rfl⟩, hS, hBe⟩ := HA.out wc hBc; have q0 := cell_keep hBc c0; have q1 := fun o => cell_keep (below1 wc o) q0)
    all_goals (go_wp2_with fail; go_ret)
    all_goals rw [hX.out]
    all_goals exact ⟨rfl, ⟨_, _, _, _, _, hS⟩, hBe⟩
end Go.Proofs.YtakmmpbkojhmhaaGreatDoor

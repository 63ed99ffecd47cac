/-
  programmed: the closed fact of a program's text, by a contract.
-/
import Derived.Test.YtakmmpbkojhmhaaGreatDoorPO
import Derived.Test.YtakmmpbkojhmhaaGreatDoorPJ2
namespace Go.Proofs.YtakmmpbkojhmhaaGreatDoor
open Go.RowKit Go.Extern.Stop Go.Stop Go.Extern

def prog0 : ProgD := ⟨[[97], [98]], [], [⟨kAddr, 0, 1, []⟩, ⟨kNew, 1, 0, []⟩]⟩
theorem prog0_check : checkE prog0 = none := by decide
theorem prog0_text : textP prog0 = [118, 97, 114, 32, 97, 10, 118, 97, 114, 32, 98, 10, 97, 32, 61, 32, 38, 98, 10, 98, 32, 61, 32, 110, 101, 119, 10] := by decide
theorem prog0_obj : objD prog0 = 3 := by decide
theorem prog0_place : placeD prog0 1 = 2 := by decide
theorem prog0_small : SmallP prog0 := by
  unfold SmallP
  refine ⟨by decide, by decide, by decide, ?_, ?_⟩
  · intro f hf
    cases hf
  · intro s hs
    simp [prog0] at hs
    rcases hs with rfl | rfl <;> decide
abbrev oVars : Obj := .cells #[.string ⟨#[97]⟩, .string ⟨#[98]⟩] 9
abbrev oStmts : Obj := .cells #[.string ⟨#[97, 100, 100, 114]⟩, .int .i64 0, .int .i64 1, .slice none 0 0, .string ⟨#[110, 101, 119]⟩, .int .i64 1, .int .i64 0, .slice none 0 0] 60
theorem prog0_is (w : World) (oc : Obj) : IsProg (((w.alloc oVars).alloc oStmts).alloc oc) (.slice (some ⟨w.heap.size, 0, none⟩) 2 2) (.slice none 0 0) (.slice (some ⟨w.heap.size + 1, 0, none⟩) 2 2) prog0 := by
  have hb : Below (w.alloc oVars).heap.size (w.alloc oVars) (((w.alloc oVars).alloc oStmts).alloc oc) := (below1 _ _).alloc (by simp) _
  have hb2 := below1 ((w.alloc oVars).alloc oStmts) oc
  refine ⟨⟨_, _, rfl, Nat.le_refl _, fun j hj => ⟨_, _, rfl, ?_⟩⟩, ⟨_, _, rfl, Nat.le_refl _, fun j hj => absurd hj (Nat.not_lt_zero _)⟩, ⟨_, _, rfl, Nat.le_refl _, fun j hj => ⟨_, _, rfl, ?_⟩⟩⟩
  · refine cell_keep hb ?_
    match j, hj with
    | 0, _ => simp [prog0, S]
    | 1, _ => simp [prog0, S]
  · match j, hj with
    | 0, _ => exact ⟨.slice none 0 0, cell_keep hb2 (by simp [prog0, S, kAddr]), cell_keep hb2 (by simp [prog0]), cell_keep hb2 (by simp [prog0]), cell_keep hb2 (by simp), IsInts.nil _ _ _, none, 0, rfl, Nat.le_refl _⟩
    | 1, _ => exact ⟨.slice none 0 0, cell_keep hb2 (by simp [prog0, S, kNew]), cell_keep hb2 (by simp [prog0]), cell_keep hb2 (by simp [prog0]), cell_keep hb2 (by simp), IsInts.nil _ _ _, none, 0, rfl, Nat.le_refl _⟩

set_option maxRecDepth 100000 in
set_option maxHeartbeats 8000000 in
theorem programmed_any (a : Nat → Addr) (w : World) (hE : Errs5 w a) : Calls Tryz.prog 23 #[] w fun e w' => e = .returned (.bool true) ∧ Below w.heap.size w w' := by
  have HE : Hid (Errs5 w a) := hE
  clear hE
  obtain ⟨oc, hoc⟩ : ∃ oc : Obj, oc = .cells #[.slice (some ⟨w.heap.size, 0, none⟩) 2 2, .slice none 0 0, .slice (some ⟨w.heap.size + 1, 0, none⟩) 2 2] 43 := ⟨_, rfl⟩
  obtain ⟨W, hW⟩ : ∃ W, W = ((w.alloc oVars).alloc oStmts).alloc oc := ⟨_, rfl⟩
  have HP : Hid (IsProg W (.slice (some ⟨w.heap.size, 0, none⟩) 2 2) (.slice none 0 0) (.slice (some ⟨w.heap.size + 1, 0, none⟩) 2 2) prog0) := by
    show IsProg W _ _ _ _
    rw [hW]; exact prog0_is w oc
  have hBW : Below w.heap.size w W := by rw [hW]; exact ((below1 w _).alloc (by simp) _).alloc (by simp; omega) _
  have HBX : Hid (Box3 W (w.heap.size + 2) (.slice (some ⟨w.heap.size, 0, none⟩) 2 2) (.slice none 0 0) (.slice (some ⟨w.heap.size + 1, 0, none⟩) 2 2)) := by
    show Box3 W _ _ _ _
    rw [hW, hoc]
    have := box3_new ((w.alloc oVars).alloc oStmts) (.slice (some ⟨w.heap.size, 0, none⟩) 2 2) (.slice none 0 0) (.slice (some ⟨w.heap.size + 1, 0, none⟩) 2 2) 43
    simp only [World.size_alloc] at this
    exact this
  obtain ⟨bt, hbt⟩ : ∃ b, b = S (textP prog0) := ⟨_, rfl⟩
  have hbl : bt.toList = [118, 97, 114, 32, 97, 10, 118, 97, 114, 32, 98, 10, 97, 32, 61, 32, 38, 98, 10, 98, 32, 61, 32, 110, 101, 119, 10] := by rw [hbt, S_toList]; exact prog0_text
  have K1 : Hid (Calls Tryz.prog 29 #[.agg #[.slice (some ⟨w.heap.size, 0, none⟩) 2 2, .slice none 0 0, .slice (some ⟨w.heap.size + 1, 0, none⟩) 2 2]] W fun e w' => e = .returned (.string bt) ∧ Below W.heap.size W w') := by
    rw [hbt]; exact text_right a prog0 _ _ _ W prog0_small HP.out (HE.out.below hBW) prog0_check
  have K2 : Hid (∀ wx, Below W.heap.size W wx → Calls Tryz.prog 31 #[.agg #[.slice (some ⟨w.heap.size, 0, none⟩) 2 2, .slice none 0 0, .slice (some ⟨w.heap.size + 1, 0, none⟩) 2 2]] wx fun e w' => e = .returned (.int .i64 3) ∧ Below wx.heap.size wx w') := fun wx hb => by
    have := objects_any a prog0 _ _ _ wx prog0_small (HP.out.below hb) ((HE.out.below hBW).below hb)
    rw [prog0_obj] at this; exact this
  have K3 : Hid (∀ wx, Below W.heap.size W wx → Calls Tryz.prog 33 #[.agg #[.slice (some ⟨w.heap.size, 0, none⟩) 2 2, .slice none 0 0, .slice (some ⟨w.heap.size + 1, 0, none⟩) 2 2], .int .i64 1] wx fun e w' => e = .returned (.int .i64 2) ∧ Below wx.heap.size wx w') := fun wx hb => by
    have := place_any a prog0 1 _ _ _ wx prog0_small (HP.out.below hb) ((HE.out.below hBW).below hb)
    rw [prog0_place] at this; exact this
  rw [hW, hoc] at K1
  rw [hoc] at hW
  clear hbt
  go_enter Tryz.func23, Tryz.ntmps23
  go_wp2_with fail
  refine K1.out.mono ?_
  rintro e w1 ⟨rfl, hB1⟩
  rw [← hW] at hB1
  obtain ⟨p0, p1, p2⟩ := HBX.out.below hB1
  clear K1
  go_wp2_with fail
  refine (K2.out _ hB1).mono ?_
  rintro e w2 ⟨rfl, hB2⟩
  have hB2w := hB1.trans (hB2.mono hB1.size)
  clear p0 p1 p2
  obtain ⟨p0, p1, p2⟩ := HBX.out.below hB2w
  clear K2
  go_wp2_with fail
  refine (K3.out _ hB2w).mono ?_
  rintro e w3 ⟨rfl, hB3⟩
  have hB3w := hBW.trans ((hB2w.trans (hB3.mono hB2w.size)).mono hBW.size)
  clear K3 p0 p1 p2
  go_wp2_with fail
  go_ret
  exact ⟨rfl, hB3w⟩
end Go.Proofs.YtakmmpbkojhmhaaGreatDoor

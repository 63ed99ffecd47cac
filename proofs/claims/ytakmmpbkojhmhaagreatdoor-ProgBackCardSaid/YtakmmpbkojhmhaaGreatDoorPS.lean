/-
  Package prog: parse, by a contract.
-/
import Derived.Test.YtakmmpbkojhmhaaGreatDoorPQ
namespace Go.Proofs.YtakmmpbkojhmhaaGreatDoor
open Go.RowKit Go.Extern.Stop Go.Stop Go.Extern

set_option maxRecDepth 100000 in
set_option maxHeartbeats 4000000 in
theorem parse_any (l : Bs) (w : World) (hs : l.length ≤ 100000) (hm : MaxL w) : Calls Tryz.prog 180 #[.string (S l)] w fun e w' => Sent w w' (parseD l) e := by
  have HM : Hid (MaxL w) := hm
  have l1 := cut_len l eqs
  obtain ⟨lf, hlf⟩ : ∃ x, x = (Lib.cut l eqs).1 := ⟨_, rfl⟩
  obtain ⟨rt, hrt⟩ : ∃ x, x = (Lib.cut l eqs).2.1 := ⟨_, rfl⟩
  have K1 : Hid (∀ wx, Below w.heap.size w wx → Calls Tryz.prog 113 #[.string (S l), .string ⟨#[32, 61, 32]⟩] wx fun e w' => e = .returned (.tuple #[.string (S lf), .string (S rt), .bool (Lib.cut l eqs).2.2]) ∧ Below wx.heap.size wx w') := fun wx hb => by
    rw [hlf, hrt]; exact cut_any l eqs wx (by omega) (HM.out.below hb)
  rw [← hlf, ← hrt] at l1
  have K3 : Hid (∀ wx x, Calls Tryz.prog 100 #[.string (S x)] wx fun e w' => e = .returned (.bool (isNm x)) ∧ w' = wx) := fun wx x => isName_any x wx
  have K4 : Hid (∀ wx, Below w.heap.size w wx → Calls Tryz.prog 199 #[.string (S rt)] wx fun e w' => Sent wx w' (rightD rt) e) := fun wx hb => right_any rt wx (by omega) (HM.out.below hb)
  have hp0 : parseD l = if Lib.hasPrefix lf [42] then (⟨kStore, Lib.trimPrefix lf [42], rt, []⟩, isNm (Lib.trimPrefix lf [42]) && isNm rt) else ({ (rightD rt).1 with x := lf }, (rightD rt).2 && isNm lf) := by
    unfold parseD; rw [← hlf, ← hrt]
  obtain ⟨CC, hCC⟩ : ∃ CC, CC = (Lib.cut l eqs).2.2 := ⟨_, rfl⟩
  rw [← hCC] at K1
  cases g : Lib.hasPrefix lf [42] with
  | true =>
    obtain ⟨x, hx⟩ : ∃ x, x = Lib.trimPrefix lf [42] := ⟨_, rfl⟩
    have K2 : Hid (∀ wx, Calls Tryz.prog 92 #[.string (S lf), .string ⟨#[42]⟩] wx fun e w' => e = .returned (.tuple #[.string (S x), .bool true]) ∧ w' = wx) := fun wx => by
      have := cutp_any lf [42] wx
      rw [g, ← hx] at this
      exact this
    rw [g, if_pos rfl, ← hx] at hp0
    obtain ⟨D1, hD1⟩ : ∃ D, D = isNm x := ⟨_, rfl⟩
    obtain ⟨D2, hD2⟩ : ∃ D, D = isNm rt := ⟨_, rfl⟩
    have Kx : Hid (∀ wx, Calls Tryz.prog 100 #[.string (S x)] wx fun e w' => e = .returned (.bool D1) ∧ w' = wx) := fun wx => by rw [hD1]; exact K3.out wx x
    have Kr : Hid (∀ wx, Calls Tryz.prog 100 #[.string (S rt)] wx fun e w' => e = .returned (.bool D2) ∧ w' = wx) := fun wx => by rw [hD2]; exact K3.out wx rt
    rw [← hD1, ← hD2] at hp0
    obtain ⟨bl, hbl⟩ : ∃ b, b = S l := ⟨_, rfl⟩
    obtain ⟨bf, hbf⟩ : ∃ b, b = S lf := ⟨_, rfl⟩
    obtain ⟨br, hbr⟩ : ∃ b, b = S rt := ⟨_, rfl⟩
    obtain ⟨bx, hbx⟩ : ∃ b, b = S x := ⟨_, rfl⟩
    rw [← hbl, ← hbf, ← hbr] at K1
    rw [← hbf, ← hbx] at K2
    rw [← hbx] at Kx
    rw [← hbr] at Kr
    rw [← hbl]
    have HX : Hid (parseD l = (⟨kStore, x, rt, []⟩, D1 && D2) ∧ bx = S x ∧ br = S rt) := ⟨hp0, hbx, hbr⟩
    clear hp0 hbl hbf hbr hbx hD1 hD2 hx g hCC l1 hlf hrt hs hm K3 K4
    go_enter Tryz.func180, Tryz.ntmps180
    go_wp2_with fail
    refine (K1.out _ (below1 w _)).mono ?_
    rintro e w1 ⟨rfl, hB1⟩
    have hBw : Below w.heap.size w w1 := (below1 w _).trans (hB1.mono (below1 w _).size)
    have hH := block_keep hB1 (heap_new w (.cells #[.string ⟨#[]⟩, .string ⟨#[]⟩, .string ⟨#[]⟩, .slice none 0 0] 203))
    have f0 := frozen_of_block hH 0
    have f1 := frozen_of_block hH 1
    have f2 := frozen_of_block hH 2
    have f3 := frozen_of_block hH 3
    have c0 := Lib.cell_of_heap hH 0
    have c1 := Lib.cell_of_heap hH 1
    have c2 := Lib.cell_of_heap hH 2
    have c3 := Lib.cell_of_heap hH 3
    simp only [List.getElem?_toArray, List.getElem?_cons_zero, List.getElem?_cons_succ] at c0 c1 c2 c3
    clear hH hB1 K1
    go_wp2_with fail
    refine (K2.out _).mono ?_
    rintro e w2 ⟨rfl, hw⟩
    obtain rfl := hw.symm
    clear hw K2
    go_wp2_with fail
    refine (Kx.out _).mono ?_
    rintro e w2 ⟨rfl, hw⟩
    obtain rfl := hw.symm
    clear hw Kx
    have HZ : Hid (∀ x1 x2 x3 x4, Below w.heap.size w ((((w1.setCell ⟨w.heap.size, 0, none⟩ x1).setCell ⟨w.heap.size, 1, none⟩ x2).setCell ⟨w.heap.size, 2, none⟩ x3).setCell ⟨w.heap.size, 3, none⟩ x4)) := fun x1 x2 x3 x4 =>
      (((hBw.setCell (Nat.le_refl _) _).setCell (Nat.le_refl _) _).setCell (Nat.le_refl _) _).setCell (Nat.le_refl _) _
    cases D1 with
    | false =>
      go_wp2_with fail
      refine bodyPost_ret (v := .tuple #[.agg #[.string ⟨#[115, 116, 111, 114, 101]⟩, .string bx, .string br, .slice none 0 0], .bool false]) (by simp [results, Tryz.results180, go_sem, c0, c1, c2, c3]) rfl ?_
      rw [HX.out.1, HX.out.2.1, HX.out.2.2]
      exact ⟨_, rfl, isStrs_nil _, newV_nil _, HZ.out _ _ _ _⟩
    | true =>
      go_wp2_with fail
      refine (Kr.out _).mono ?_
      rintro e w2 ⟨rfl, hw⟩
      obtain rfl := hw.symm
      clear hw Kr
      go_wp2_with fail
      refine bodyPost_ret (v := .tuple #[.agg #[.string ⟨#[115, 116, 111, 114, 101]⟩, .string bx, .string br, .slice none 0 0], .bool D2]) (by simp [results, Tryz.results180, go_sem, c0, c1, c2, c3]) rfl ?_
      rw [HX.out.1, HX.out.2.1, HX.out.2.2]
      exact ⟨_, by rw [Bool.true_and]; rfl, isStrs_nil _, newV_nil _, HZ.out _ _ _ _⟩
  | false =>
    have K2 : Hid (∀ wx, Calls Tryz.prog 92 #[.string (S lf), .string ⟨#[42]⟩] wx fun e w' => ∃ X, e = .returned (.tuple #[.string X, .bool false]) ∧ w' = wx) := fun wx => by
      have := cutp_any lf [42] wx
      rw [g] at this
      exact this.mono fun e w' h => ⟨_, h.1, h.2⟩
    rw [g, if_neg (by decide)] at hp0
    obtain ⟨D1, hD1⟩ : ∃ D, D = (rightD rt).2 := ⟨_, rfl⟩
    obtain ⟨D2, hD2⟩ : ∃ D, D = isNm lf := ⟨_, rfl⟩
    obtain ⟨d, hd⟩ : ∃ d, d = (rightD rt).1 := ⟨_, rfl⟩
    have hdd : rightD rt = (d, D1) := by rw [hd, hD1]
    have Kx : Hid (∀ wx, Calls Tryz.prog 100 #[.string (S lf)] wx fun e w' => e = .returned (.bool D2) ∧ w' = wx) := fun wx => by rw [hD2]; exact K3.out wx lf
    rw [hdd] at K4
    rw [hdd, ← hD2] at hp0
    obtain ⟨bl, hbl⟩ : ∃ b, b = S l := ⟨_, rfl⟩
    obtain ⟨bf, hbf⟩ : ∃ b, b = S lf := ⟨_, rfl⟩
    obtain ⟨br, hbr⟩ : ∃ b, b = S rt := ⟨_, rfl⟩
    rw [← hbl, ← hbf, ← hbr] at K1
    rw [← hbf] at K2
    rw [← hbf] at Kx
    rw [← hbr] at K4
    rw [← hbl]
    have HX : Hid (parseD l = ({ d with x := lf }, D1 && D2) ∧ bf = S lf) := ⟨hp0, hbf⟩
    clear hp0 hbl hbf hbr hD1 hD2 hd hdd g hCC l1 hlf hrt hs hm K3
    go_enter Tryz.func180, Tryz.ntmps180
    go_wp2_with fail
    refine (K1.out _ (below1 w _)).mono ?_
    rintro e w1 ⟨rfl, hB1⟩
    have hBw : Below w.heap.size w w1 := (below1 w _).trans (hB1.mono (below1 w _).size)
    have HH : Hid (w1.heap[w.heap.size]? = some (.cells #[.string ⟨#[]⟩, .string ⟨#[]⟩, .string ⟨#[]⟩, .slice none 0 0] 203 (0, 0))) := block_keep hB1 (heap_new w (.cells #[.string ⟨#[]⟩, .string ⟨#[]⟩, .string ⟨#[]⟩, .slice none 0 0] 203))
    clear hB1 K1
    go_wp2_with fail
    refine (K2.out _).mono ?_
    rintro e w2 ⟨X, rfl, hw⟩
    obtain rfl := hw.symm
    clear hw K2
    go_wp2_with fail
    refine (K4.out _ hBw).mono ?_
    rintro e w2 ⟨lv, rfl, hv, hnv, hB2⟩
    have hlt : w.heap.size < w1.heap.size := (Array.getElem?_eq_some_iff.1 HH.out).1
    have HLS : Hid (IsStrs w2 lv d.args ∧ NewV w lv ∧ lv.ownBlock ≠ some w.heap.size ∧ lv.ownBlock ≠ none ∨ IsStrs w2 lv d.args ∧ NewV w lv ∧ lv.ownBlock = none) := by
      by_cases q : lv.ownBlock = none
      · exact Or.inr ⟨hv, hnv.mono hBw, q⟩
      · exact Or.inl ⟨hv, hnv.mono hBw, fun e => by have := hnv _ e; omega, q⟩
    have HNE : Hid (IsStrs w2 lv d.args ∧ NewV w lv ∧ lv.ownBlock ≠ some w.heap.size) := ⟨hv, hnv.mono hBw, fun e => by have := hnv _ e; omega⟩
    obtain ⟨va, vc, rfl, -, -⟩ := hv
    have hBx : Below w.heap.size w w2 := hBw.trans (hB2.mono hBw.size)
    have hH2 := block_keep hB2 HH.out
    have HZ : Hid (∀ o x1 x2 x3 x4, IsStrs (((((w2.alloc o).setCell ⟨w.heap.size, 0, none⟩ x1).setCell ⟨w.heap.size, 1, none⟩ x2).setCell ⟨w.heap.size, 2, none⟩ x3).setCell ⟨w.heap.size, 3, none⟩ x4) (.slice va d.args.length vc) d.args ∧ Below w.heap.size w (((((w2.alloc o).setCell ⟨w.heap.size, 0, none⟩ x1).setCell ⟨w.heap.size, 1, none⟩ x2).setCell ⟨w.heap.size, 2, none⟩ x3).setCell ⟨w.heap.size, 3, none⟩ x4)) := fun o x1 x2 x3 x4 =>
      ⟨((((HNE.out.1.below (below1 w2 o)).setCell _ _ HNE.out.2.2).setCell _ _ HNE.out.2.2).setCell _ _ HNE.out.2.2).setCell _ _ HNE.out.2.2,
        ((((hBx.alloc hBx.size o).setCell (Nat.le_refl _) _).setCell (Nat.le_refl _) _).setCell (Nat.le_refl _) _).setCell (Nat.le_refl _) _⟩
    have hw2 : w.heap.size < w2.heap.size := (Array.getElem?_eq_some_iff.1 hH2).1
    have f0 := fun o => frozen_of_block (block_keep (below1 w2 o) hH2) 0
    have f1 := fun o => frozen_of_block (block_keep (below1 w2 o) hH2) 1
    have f2 := fun o => frozen_of_block (block_keep (below1 w2 o) hH2) 2
    have f3 := fun o => frozen_of_block (block_keep (below1 w2 o) hH2) 3
    have c0 := fun o => Lib.cell_of_heap (block_keep (below1 w2 o) hH2) 0
    have c1 := fun o => Lib.cell_of_heap (block_keep (below1 w2 o) hH2) 1
    have c2 := fun o => Lib.cell_of_heap (block_keep (below1 w2 o) hH2) 2
    have c3 := fun o => Lib.cell_of_heap (block_keep (below1 w2 o) hH2) 3
    simp only [List.getElem?_toArray, List.getElem?_cons_zero, List.getElem?_cons_succ] at c0 c1 c2 c3
    obtain ⟨bk, hbk⟩ : ∃ b, b = S d.kind := ⟨_, rfl⟩
    obtain ⟨b0, hb0⟩ : ∃ b, b = S d.x := ⟨_, rfl⟩
    obtain ⟨b_y, hb_y⟩ : ∃ b, b = S d.y := ⟨_, rfl⟩
    have HY : Hid (bk = S d.kind ∧ b_y = S d.y) := ⟨hbk, hb_y⟩
    rw [← hbk, ← hb0, ← hb_y]
    clear hH2 hB2 K4 hBw HH HLS hnv hlt hbk hb0 hb_y
    go_wp2_with fail
    obtain ⟨w3, hw3⟩ : ∃ w3, w3 = w2.alloc (.cells #[.string bk, .string bf, .string b_y, .slice va d.args.length vc] 203) := ⟨_, rfl⟩
    have s0 : w3.cell? ⟨w2.heap.size, 0, none⟩ = some (.string bk) := by rw [hw3]; simp
    have s1 : w3.cell? ⟨w2.heap.size, 1, none⟩ = some (.string bf) := by rw [hw3]; simp
    have s2 : w3.cell? ⟨w2.heap.size, 2, none⟩ = some (.string b_y) := by rw [hw3]; simp
    have s3 : w3.cell? ⟨w2.heap.size, 3, none⟩ = some (.slice va d.args.length vc) := by rw [hw3]; simp
    have f0 := f0 (.cells #[.string bk, .string bf, .string b_y, .slice va d.args.length vc] 203)
    have f1 := f1 (.cells #[.string bk, .string bf, .string b_y, .slice va d.args.length vc] 203)
    have f2 := f2 (.cells #[.string bk, .string bf, .string b_y, .slice va d.args.length vc] 203)
    have f3 := f3 (.cells #[.string bk, .string bf, .string b_y, .slice va d.args.length vc] 203)
    have c0 := c0 (.cells #[.string bk, .string bf, .string b_y, .slice va d.args.length vc] 203)
    have c1 := c1 (.cells #[.string bk, .string bf, .string b_y, .slice va d.args.length vc] 203)
    have c2 := c2 (.cells #[.string bk, .string bf, .string b_y, .slice va d.args.length vc] 203)
    have c3 := c3 (.cells #[.string bk, .string bf, .string b_y, .slice va d.args.length vc] 203)
    have HZ2 := HZ.out (.cells #[.string bk, .string bf, .string b_y, .slice va d.args.length vc] 203)
    rw [← hw3] at f0 f1 f2 f3 c0 c1 c2 c3 HZ2 ⊢
    have HZ3 : Hid (∀ x1 x2 x3 x4, IsStrs ((((w3.setCell ⟨w.heap.size, 0, none⟩ x1).setCell ⟨w.heap.size, 1, none⟩ x2).setCell ⟨w.heap.size, 2, none⟩ x3).setCell ⟨w.heap.size, 3, none⟩ x4) (.slice va d.args.length vc) d.args ∧ Below w.heap.size w ((((w3.setCell ⟨w.heap.size, 0, none⟩ x1).setCell ⟨w.heap.size, 1, none⟩ x2).setCell ⟨w.heap.size, 2, none⟩ x3).setCell ⟨w.heap.size, 3, none⟩ x4)) := HZ2
    have F0 : w3.drew.frozen? ⟨w.heap.size, 0, none⟩ = false := f0
    have F1 : w3.drew.frozen? ⟨w.heap.size, 1, none⟩ = false := f1
    have F2 : w3.drew.frozen? ⟨w.heap.size, 2, none⟩ = false := f2
    have F3 : w3.drew.frozen? ⟨w.heap.size, 3, none⟩ = false := f3
    clear hw3 HZ HZ2
    cases D1 with
    | false =>
      go_region
      all_goals (go_wp2_with fail)
      all_goals refine bodyPost_ret (v := .tuple #[.agg #[.string bk, .string bf, .string b_y, .slice va d.args.length vc], .bool false]) (by simp [results, Tryz.results180, go_sem, c0, c1, c2, c3]) rfl ?_
      all_goals rw [HX.out.1, HX.out.2, HY.out.1, HY.out.2]
      all_goals exact ⟨_, rfl, (HZ3.out _ _ _ _).1, HNE.out.2.1, (HZ3.out _ _ _ _).2.drew⟩
    | true =>
      go_region_with (go_at_call 100; refine (Kx.out _).mono ?_; rintro e w' ⟨rfl, rfl⟩)
      all_goals (go_wp2_with fail)
      all_goals refine bodyPost_ret (v := .tuple #[.agg #[.string bk, .string bf, .string b_y, .slice va d.args.length vc], .bool D2]) (by simp [results, Tryz.results180, go_sem, Act.put, c0, c1, c2, c3]) rfl ?_
      all_goals rw [HX.out.1, HX.out.2, HY.out.1, HY.out.2]
      all_goals exact ⟨_, rfl, (HZ3.out _ _ _ _).1, HNE.out.2.1, (HZ3.out _ _ _ _).2.drew⟩
end Go.Proofs.YtakmmpbkojhmhaaGreatDoor

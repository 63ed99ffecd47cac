/-
  Package prog: parse, by a contract.
-/
import Derived.Test.YtakmmpbkojhmhaaGreatDoorPQ
import Derived.Test.YtakmmpbkojhmhaaGreatDoorPMem
namespace Go.Proofs.YtakmmpbkojhmhaaGreatDoor
open Go.RowKit Go.Extern.Stop Go.Stop Go.Extern

set_option maxRecDepth 100000 in
set_option maxHeartbeats 4000000 in
theorem parse_any (l : Bs) (w : World) (hs : l.length ≤ 100000) (hm : MaxL w) : Calls Tryz.prog 180 #[.string (S l)] w fun e w' => Sent w w' (parseD l) e := by
  have HM : Hid (MaxL w) := hm
  have l1 := cut_len l eqs
  obtain ⟨lf, hlf⟩ : ∃ x, x = (Lib.cut l eqs).1 := ⟨_, rfl⟩
  obtain ⟨rt, hrt⟩ : ∃ x, x = (Lib.cut l eqs).2.1 := ⟨_, rfl⟩
  have K1 : Hid (∀ wx, Below w.heap.size w wx → Calls Tryz.prog 113 #[.string (S l), .string ⟨#[32, 61, 32]⟩] wx fun e w' => e = .returned (.tuple #[.string (S lf), .string (S rt), .bool (Lib.cut l eqs).2.2]) ∧ Below wx.heap.size wx w') := fun wx hb => by
    rw [hlf, hrt]; exact cut_any l eqs wx (by omega) (HM.out.below hb)
  rw [← hlf, ← hrt] at l1
  have K3 : Hid (∀ wx x, Calls Tryz.prog 100 #[.string (S x)] wx fun e w' => e = .returned (.bool (isNm x)) ∧ w' = wx) := fun wx x => isName_any x wx
  have K4 : Hid (∀ wx, Below w.heap.size w wx → Calls Tryz.prog 199 #[.string (S rt)] wx fun e w' => Sent wx w' (rightD rt) e) := fun wx hb => right_any rt wx (by omega) (HM.out.below hb)
  have hp0 : parseD l = if Lib.hasPrefix lf [42] then (⟨kStore, Lib.trimPrefix lf [42], rt, []⟩, isNm (Lib.trimPrefix lf [42]) && isNm rt) else ({ (rightD rt).1 with x := lf }, (rightD rt).2 && isNm lf) := by
    unfold parseD; rw [← hlf, ← hrt]
  obtain ⟨CC, hCC⟩ : ∃ CC, CC = (Lib.cut l eqs).2.2 := ⟨_, rfl⟩
  rw [← hCC] at K1
  cases g : Lib.hasPrefix lf [42] with
  | true =>
    obtain ⟨x, hx⟩ : ∃ x, x = Lib.trimPrefix lf [42] := ⟨_, rfl⟩
    have K2 : Hid (∀ wx, Calls Tryz.prog 92 #[.string (S lf), .string ⟨#[42]⟩] wx fun e w' => e = .returned (.tuple #[.string (S x), .bool true]) ∧ w' = wx) := fun wx => by
      have := cutp_any lf [42] wx
      rw [g, ← hx] at this
      exact this
    rw [g, if_pos rfl, ← hx] at hp0
    obtain ⟨D1, hD1⟩ : ∃ D, D = isNm x := ⟨_, rfl⟩
    obtain ⟨D2, hD2⟩ : ∃ D, D = isNm rt := ⟨_, rfl⟩
    have Kx : Hid (∀ wx, Calls Tryz.prog 100 #[.string (S x)] wx fun e w' => e = .returned (.bool D1) ∧ w' = wx) := fun wx => by rw [hD1]; exact K3.out wx x
    have Kr : Hid (∀ wx, Calls Tryz.prog 100 #[.string (S rt)] wx fun e w' => e = .returned (.bool D2) ∧ w' = wx) := fun wx => by rw [hD2]; exact K3.out wx rt
    rw [← hD1, ← hD2] at hp0
    obtain ⟨bl, hbl⟩ : ∃ b, b = S l := ⟨_, rfl⟩
    obtain ⟨bf, hbf⟩ : ∃ b, b = S lf := ⟨_, rfl⟩
    obtain ⟨br, hbr⟩ : ∃ b, b = S rt := ⟨_, rfl⟩
    obtain ⟨bx, hbx⟩ : ∃ b, b = S x := ⟨_, rfl⟩
    rw [← hbl, ← hbf, ← hbr] at K1
    rw [← hbf, ← hbx] at K2
    rw [← hbx] at Kx
    rw [← hbr] at Kr
    rw [← hbl]
    have HX : Hid (parseD l = (⟨kStore, x, rt, []⟩, D1 && D2) ∧ bx = S x ∧ br = S rt) := ⟨hp0, hbx, hbr⟩
    clear hp0 hbl hbf hbr hbx hD1 hD2 hx g hCC l1 hlf hrt hs hm K3 K4
    go_enter Tryz.func180, Tryz.ntmps180
    go_wp2_with fail
    refine (K1.out _ (below1 w _)).mono ?_
    rintro e w1 ⟨rfl, hB1⟩
    have hBw : Below w.heap.size w w1 := (below1 w _).trans (hB1.mono (below1 w _).size)
    have hH := block_keep hB1 (heap_new w (.cells #[.string ⟨#[]⟩, .string ⟨#[]⟩, .string ⟨#[]⟩, .slice none 0 0] 203))
    have f0 := frozen_of_block hH 0
    have f1 := frozen_of_block hH 1
    have f2 := frozen_of_block hH 2
    have f3 := frozen_of_block hH 3
    have c0 := Lib.cell_of_heap hH 0
    have c1 := Lib.cell_of_heap hH 1
    have c2 := Lib.cell_of_heap hH 2
    have c3 := Lib.cell_of_heap hH 3
    simp only [List.getElem?_toArray, List.getElem?_cons_zero, List.getElem?_cons_succ] at c0 c1 c2 c3
    clear hH hB1 K1
    go_wp2_with fail
    refine (K2.out _).mono ?_
    rintro e w2 ⟨rfl, hw⟩
    obtain rfl := hw.symm
    clear hw K2
    go_wp2_with fail
    refine (Kx.out _).mono ?_
    rintro e w2 ⟨rfl, hw⟩
    obtain rfl := hw.symm
    clear hw Kx
    have HZ : Hid (∀ x1 x2 x3 x4, Below w.heap.size w ((((w1.setCell ⟨w.heap.size, 0, none⟩ x1).setCell ⟨w.heap.size, 1, none⟩ x2).setCell ⟨w.heap.size, 2, none⟩ x3).setCell ⟨w.heap.size, 3, none⟩ x4)) := fun x1 x2 x3 x4 =>
      (((hBw.setCell (Nat.le_refl _) _).setCell (Nat.le_refl _) _).setCell (Nat.le_refl _) _).setCell (Nat.le_refl _) _
    cases D1 with
    | false =>
      go_wp2_with fail
      refine bodyPost_ret (v := .tuple #[.agg #[.string ⟨#[115, 116, 111, 114, 101]⟩, .string bx, .string br, .slice none 0 0], .bool false]) (by simp [results, Tryz.results180, go_sem, c0, c1, c2, c3]) rfl ?_
      rw [HX.out.1, HX.out.2.1, HX.out.2.2]
      exact ⟨_, rfl, isStrs_nil _, newV_nil _, HZ.out _ _ _ _⟩
    | true =>
      go_wp2_with fail
      refine (Kr.out _).mono ?_
      rintro e w2 ⟨rfl, hw⟩
      obtain rfl := hw.symm
      clear hw Kr
      go_wp2_with fail
      refine bodyPost_ret (v := .tuple #[.agg #[.string ⟨#[115, 116, 111, 114, 101]⟩, .string bx, .string br, .slice none 0 0], .bool D2]) (by simp [results, Tryz.results180, go_sem, c0, c1, c2, c3]) rfl ?_
      rw [HX.out.1, HX.out.2.1, HX.out.2.2]
      exact ⟨_, by rw [Bool.true_and]; rfl, isStrs_nil _, newV_nil _, HZ.out _ _ _ _⟩
  | false =>
    have K2 : Hid (∀ wx, Calls Tryz.prog 92 #[.string (S lf), .string ⟨#[42]⟩] wx fun e w' => ∃ X, e = .returned (.tuple #[.string X, .bool false]) ∧ w' = wx) := fun wx => by
      have := cutp_any lf [42] wx
      rw [g] at this
      exact this.mono fun e w' h => ⟨_, h.1, h.2⟩
    rw [g, if_neg (by decide)] at hp0
    obtain ⟨D1, hD1⟩ : ∃ D, D = (rightD rt).2 := ⟨_, rfl⟩
    obtain ⟨D2, hD2⟩ : ∃ D, D = isNm lf := ⟨_, rfl⟩
    obtain ⟨d, hd⟩ : ∃ d, d = (rightD rt).1 := ⟨_, rfl⟩
    have hdd : rightD rt = (d, D1) := by rw [hd, hD1]
    have Kx : Hid (∀ wx, Calls Tryz.prog 100 #[.string (S lf)] wx fun e w' => e = .returned (.bool D2) ∧ w' = wx) := fun wx => by rw [hD2]; exact K3.out wx lf
    rw [hdd] at K4
    rw [hdd, ← hD2] at hp0
    obtain ⟨bl, hbl⟩ : ∃ b, b = S l := ⟨_, rfl⟩
    obtain ⟨bf, hbf⟩ : ∃ b, b = S lf := ⟨_, rfl⟩
    obtain ⟨br, hbr⟩ : ∃ b, b = S rt := ⟨_, rfl⟩
    rw [← hbl, ← hbf, ← hbr] at K1
    rw [← hbf] at K2
    rw [← hbf] at Kx
    rw [← hbr] at K4
    rw [← hbl]
    have HX : Hid (parseD l = ({ d with x := lf }, D1 && D2) ∧ bf = S lf) := ⟨hp0, hbf⟩
    clear hp0 hbl hbf hbr hD1 hD2 hd hdd g hCC l1 hlf hrt hs hm K3
    go_enter Tryz.func180, Tryz.ntmps180
    go_wp2_with fail
    refine (K1.out _ (below1 w _)).mono ?_
    rintro e w1 ⟨rfl, hB1⟩
    have hBw : Below w.heap.size w w1 := (below1 w _).trans (hB1.mono (below1 w _).size)
    have HH : Hid (w1.heap[w.heap.size]? = some (.cells #[.string ⟨#[]⟩, .string ⟨#[]⟩, .string ⟨#[]⟩, .slice none 0 0] 203 (0, 0))) := block_keep hB1 (heap_new w (.cells #[.string ⟨#[]⟩, .string ⟨#[]⟩, .string ⟨#[]⟩, .slice none 0 0] 203))
    clear hB1 K1
    go_wp2_with fail
    refine (K2.out _).mono ?_
    rintro e w2 ⟨X, rfl, hw⟩
    obtain rfl := hw.symm
    clear hw K2
    go_wp2_with fail
    refine (K4.out _ hBw).mono ?_
    rintro e w2 ⟨lv, rfl, hv, hnv, hB2⟩
    have hlt : w.heap.size < w1.heap.size := (Array.getElem?_eq_some_iff.1 HH.out).1
    have HLS : Hid (IsStrs w2 lv d.args ∧ NewV w lv ∧ lv.ownBlock ≠ some w.heap.size ∧ lv.ownBlock ≠ none ∨ IsStrs w2 lv d.args ∧ NewV w lv ∧ lv.ownBlock = none) := by
      by_cases q : lv.ownBlock = none
      · exact Or.inr ⟨hv, hnv.mono hBw, q⟩
      · exact Or.inl ⟨hv, hnv.mono hBw, fun e => by have := hnv _ e; omega, q⟩
    have HNE : Hid (IsStrs w2 lv d.args ∧ NewV w lv ∧ lv.ownBlock ≠ some w.heap.size) := ⟨hv, hnv.mono hBw, fun e => by have := hnv _ e; omega⟩
    obtain ⟨va, vc, rfl, -, -⟩ := hv
    have hBx : Below w.heap.size w w2 := hBw.trans (hB2.mono hBw.size)
    have hH2 := block_keep hB2 HH.out
    have HZ : Hid (∀ o x1 x2 x3 x4, IsStrs (((((w2.alloc o).setCell ⟨w.heap.size, 0, none⟩ x1).setCell ⟨w.heap.size, 1, none⟩ x2).setCell ⟨w.heap.size, 2, none⟩ x3).setCell ⟨w.heap.size, 3, none⟩ x4) (.slice va d.args.length vc) d.args ∧ Below w.heap.size w (((((w2.alloc o).setCell ⟨w.heap.size, 0, none⟩ x1).setCell ⟨w.heap.size, 1, none⟩ x2).setCell ⟨w.heap.size, 2, none⟩ x3).setCell ⟨w.heap.size, 3, none⟩ x4)) := fun o x1 x2 x3 x4 =>
      ⟨((((HNE.out.1.below (below1 w2 o)).setCell _ _ HNE.out.2.2).setCell _ _ HNE.out.2.2).setCell _ _ HNE.out.2.2).setCell _ _ HNE.out.2.2,
        ((((hBx.alloc hBx.size o).setCell (Nat.le_refl _) _).setCell (Nat.le_refl _) _).setCell (Nat.le_refl _) _).setCell (Nat.le_refl _) _⟩
    have hw2 : w.heap.size < w2.heap.size := (Array.getElem?_eq_some_iff.1 hH2).1
    have f0 := fun o => frozen_of_block (block_keep (below1 w2 o) hH2) 0
    have f1 := fun o => frozen_of_block (block_keep (below1 w2 o) hH2) 1
    have f2 := fun o => frozen_of_block (block_keep (below1 w2 o) hH2) 2
    have f3 := fun o => frozen_of_block (block_keep (below1 w2 o) hH2) 3
    have c0 := fun o => Lib.cell_of_heap (block_keep (below1 w2 o) hH2) 0
    have c1 := fun o => Lib.cell_of_heap (block_keep (below1 w2 o) hH2) 1
    have c2 := fun o => Lib.cell_of_heap (block_keep (below1 w2 o) hH2) 2
    have c3 := fun o => Lib.cell_of_heap (block_keep (below1 w2 o) hH2) 3
    simp only [List.getElem?_toArray, List.getElem?_cons_zero, List.getElem?_cons_succ] at c0 c1 c2 c3
    obtain ⟨bk, hbk⟩ : ∃ b, b = S d.kind := ⟨_, rfl⟩
    obtain ⟨b0, hb0⟩ : ∃ b, b = S d.x := ⟨_, rfl⟩
    obtain ⟨b_y, hb_y⟩ : ∃ b, b = S d.y := ⟨_, rfl⟩
    have HY : Hid (bk = S d.kind ∧ b_y = S d.y) := ⟨hbk, hb_y⟩
    rw [← hbk, ← hb0, ← hb_y]
    clear hH2 hB2 K4 hBw HH HLS hnv hlt hbk hb0 hb_y
    go_wp2_with fail
    obtain ⟨w3, hw3⟩ : ∃ w3, w3 = w2.alloc (.cells #[.string bk, .string bf, .string b_y, .slice va d.args.length vc] 203) := ⟨_, rfl⟩
    have s0 : w3.cell? ⟨w2.heap.size, 0, none⟩ = some (.string bk) := by rw [hw3]; simp
    have s1 : w3.cell? ⟨w2.heap.size, 1, none⟩ = some (.string bf) := by rw [hw3]; simp
    have s2 : w3.cell? ⟨w2.heap.size, 2, none⟩ = some (.string b_y) := by rw [hw3]; simp
    have s3 : w3.cell? ⟨w2.heap.size, 3, none⟩ = some (.slice va d.args.length vc) := by rw [hw3]; simp
    have f0 := f0 (.cells #[.string bk, .string bf, .string b_y, .slice va d.args.length vc] 203)
    have f1 := f1 (.cells #[.string bk, .string bf, .string b_y, .slice va d.args.length vc] 203)
    have f2 := f2 (.cells #[.string bk, .string bf, .string b_y, .slice va d.args.length vc] 203)
    have f3 := f3 (.cells #[.string bk, .string bf, .string b_y, .slice va d.args.length vc] 203)
    have c0 := c0 (.cells #[.string bk, .string bf, .string b_y, .slice va d.args.length vc] 203)
    have c1 := c1 (.cells #[.string bk, .string bf, .string b_y, .slice va d.args.length vc] 203)
    have c2 := c2 (.cells #[.string bk, .string bf, .string b_y, .slice va d.args.length vc] 203)
    have c3 := c3 (.cells #[.string bk, .string bf, .string b_y, .slice va d.args.length vc] 203)
    have HZ2 := HZ.out (.cells #[.string bk, .string bf, .string b_y, .slice va d.args.length vc] 203)
    rw [← hw3] at f0 f1 f2 f3 c0 c1 c2 c3 HZ2 ⊢
    have HZ3 : Hid (∀ x1 x2 x3 x4, IsStrs ((((w3.setCell ⟨w.heap.size, 0, none⟩ x1).setCell ⟨w.heap.size, 1, none⟩ x2).setCell ⟨w.heap.size, 2, none⟩ x3).setCell ⟨w.heap.size, 3, none⟩ x4) (.slice va d.args.length vc) d.args ∧ Below w.heap.size w ((((w3.setCell ⟨w.heap.size, 0, none⟩ x1).setCell ⟨w.heap.size, 1, none⟩ x2).setCell ⟨w.heap.size, 2, none⟩ x3).setCell ⟨w.heap.size, 3, none⟩ x4)) := HZ2
    have F0 : w3.drew.frozen? ⟨w.heap.size, 0, none⟩ = false := f0
    have F1 : w3.drew.frozen? ⟨w.heap.size, 1, none⟩ = false := f1
    have F2 : w3.drew.frozen? ⟨w.heap.size, 2, none⟩ = false := f2
    have F3 : w3.drew.frozen? ⟨w.heap.size, 3, none⟩ = false := f3
    clear hw3 HZ HZ2
    cases D1 with
    | false =>
      go_region
      all_goals (go_wp2_with fail)
      all_goals refine bodyPost_ret (v := .tuple #[.agg #[.string bk, .string bf, .string b_y, .slice va d.args.length vc], .bool false]) (by simp [results, Tryz.results180, go_sem, c0, c1, c2, c3]) rfl ?_
      all_goals rw [HX.out.1, HX.out.2, HY.out.1, HY.out.2]
      all_goals exact ⟨_, rfl, (HZ3.out _ _ _ _).1, HNE.out.2.1, (HZ3.out _ _ _ _).2.drew⟩
    | true =>
      go_region_with (go_at_call 100; refine (Kx.out _).mono ?_; rintro e w' ⟨rfl, rfl⟩)
      all_goals (go_wp2_with fail)
      all_goals refine bodyPost_ret (v := .tuple #[.agg #[.string bk, .string bf, .string b_y, .slice va d.args.length vc], .bool D2]) (by simp [results, Tryz.results180, go_sem, Act.put, c0, c1, c2, c3]) rfl ?_
      all_goals rw [HX.out.1, HX.out.2, HY.out.1, HY.out.2]
      all_goals exact ⟨_, rfl, (HZ3.out _ _ _ _).1, HNE.out.2.1, (HZ3.out _ _ _ _).2.drew⟩
end Go.Proofs.YtakmmpbkojhmhaaGreatDoor

/-
  Package prog: readVar, by a contract.
-/
namespace Go.Proofs.YtakmmpbkojhmhaaGreatDoor
open Go.RowKit Go.Extern.Stop Go.Stop Go.Extern

/-- What readVar, readFun, readStmt and readLine do. -/
def Does (a : Nat → Addr) (B pb : Nat) (w w' : World) (d : ProgD × Option Nat) (e : Ending) : Prop :=
  e = .returned (errV a d.2) ∧ (∃ v1 v2 v3 ps qs, St w' B pb d.1 v1 v2 v3 ps qs) ∧ Below B w w'
theorem errs_below {w w' : World} {a : Nat → Addr} {B : Nat} (h : Errs5 w a) (hb : Below B w w') (hB : 18 ≤ B) : Errs5 w' a := by
  have k : ∀ (g : Nat) v, g < 18 → w.cell? ⟨g, 0, none⟩ = some v → w'.cell? ⟨g, 0, none⟩ = some v := fun g v hg hc => by
    rw [hb.cell (p := ⟨g, 0, none⟩) (show g < B by omega)]; exact hc
  exact ⟨k _ _ (by decide) h.c0, k _ _ (by decide) h.c1, k _ _ (by decide) h.c2, k _ _ (by decide) h.c3, k _ _ (by decide) h.c4, k _ _ (by decide) h.c5, k _ _ (by decide) h.c6, k _ _ (by decide) h.c7, k _ _ (by decide) h.c8⟩
end Go.Proofs.YtakmmpbkojhmhaaGreatDoor

/-
  Package prog: readVar, by a contract.
-/
namespace Go.Proofs.YtakmmpbkojhmhaaGreatDoor
open Go.RowKit Go.Extern.Stop Go.Stop Go.Extern

set_option maxRecDepth 100000 in
set_option maxHeartbeats 4000000 in
theorem readVar_any (a : Nat → Addr) (B pb : Nat) (P : ProgD) (s : Bs) (v1 v2 v3 : Value) (ps qs : List Value) (w : World) (hst : St w B pb P v1 v2 v3 ps qs) (hl : P.vars.length ≤ 100000) (hz : s.length ≤ 100000) (hE : Errs5 w a) :
    Calls Tryz.prog 145 #[.pointer (some ⟨pb, 0, none⟩), .string (S s)] w fun e w' => Does a B pb w w' (readVarD P s) e := by
  have HST : Hid (St w B pb P v1 v2 v3 ps qs) := hst
  have K1 : Hid (∀ wx, Calls Tryz.prog 100 #[.string (S s)] wx fun e w' => e = .returned (.bool (isNm s)) ∧ w' = wx) := fun wx => isName_any s wx
  have K2 : Hid (∀ wx, Below w.heap.size w wx → Calls Tryz.prog 176 #[.string (S s)] wx fun e w' => e = .returned (.string (S s)) ∧ Below w.heap.size w w') := fun wx hb => (clone_any (S s) wx (by rw [S_size]; omega)).mono fun e w' h => ⟨h.1, hb.trans (h.2.mono hb.size)⟩
  obtain ⟨c0, c1, c2⟩ := hst.cells
  obtain ⟨a1, n1, rfl⟩ := owns_form hst.o1
  obtain ⟨a2, n2, rfl⟩ := owns_form hst.o2
  obtain ⟨a3, n3, rfl⟩ := owns_form hst.o3
  have e0 := hE.c0
  have HB : Hid (∀ wx, Below w.heap.size w wx → Below B w wx) := fun wx h => h.mono hst.size
  have HX : Hid ((isNm s = false ∨ 0 < P.funs.length ∨ 0 < P.stmts.length) → readVarD P s = (P, some 0)) := fun h => by
    unfold readVarD
    rw [if_pos]
    rcases h with h | h | h
    · rw [h]; rfl
    · rw [show P.funs.isEmpty = false by rw [List.isEmpty_eq_false_iff]; intro q; rw [q] at h; exact absurd h (by decide)]; simp
    · rw [show P.stmts.isEmpty = false by rw [List.isEmpty_eq_false_iff]; intro q; rw [q] at h; exact absurd h (by decide)]; simp
  have HY : Hid (isNm s = true → P.funs.length = 0 → P.stmts.length = 0 → readVarD P s = ({ P with vars := P.vars ++ [s] }, none)) := fun h1 h2 h3 => by
    unfold readVarD
    rw [if_neg]
    rw [h1, List.eq_nil_of_length_eq_zero h2, List.eq_nil_of_length_eq_zero h3]; decide
  have hpb : pb < w.heap.size := (Array.getElem?_eq_some_iff.1 hst.blk).1
  obtain ⟨m1, hm1⟩ : ∃ m, m = P.vars.length := ⟨_, rfl⟩
  obtain ⟨m2, hm2⟩ : ∃ m, m = P.funs.length := ⟨_, rfl⟩
  obtain ⟨m3, hm3⟩ : ∃ m, m = P.stmts.length := ⟨_, rfl⟩
  have HMM : Hid (m1 = P.vars.length ∧ m2 = P.funs.length ∧ m3 = P.stmts.length) := ⟨hm1, hm2, hm3⟩
  rw [← hm1] at c0 hl
  rw [← hm2] at c1
  rw [← hm3] at c2
  rw [← hm1, ← hm2, ← hm3] at HST
  clear hm1 hm2 hm3
  obtain ⟨bs, hbs⟩ : ∃ b, b = S s := ⟨_, rfl⟩
  have HBS : Hid (bs = S s) := hbs
  rw [← hbs] at K1 K2 ⊢
  clear hbs hst hE
  cases hD : isNm s with
  | false =>
    have hX : Hid (readVarD P s = (P, some 0)) := HX.out (Or.inl hD)
    rw [hD] at K1
    clear HX HY hD
    go_enter Tryz.func145, Tryz.ntmps145
    go_wp2_with fail
    refine (K1.out _).mono ?_
    rintro e w1 ⟨rfl, hw⟩
    obtain rfl := hw.symm
    clear hw
    go_wp2_with fail
    go_ret
    rw [hX.out]
    exact ⟨rfl, ⟨_, _, _, _, _, HST.out⟩, Below.refl _ _⟩
  | true =>
    rw [hD] at K1
    by_cases g2 : 0 < (m2 : Int)
    · have hX : Hid (readVarD P s = (P, some 0)) := HX.out (Or.inr (Or.inl (by have := HMM.out; omega)))
      clear HX HY hD
      go_enter Tryz.func145, Tryz.ntmps145
      go_wp2_with fail
      refine (K1.out _).mono ?_
      rintro e w1 ⟨rfl, hw⟩
      obtain rfl := hw.symm
      clear hw
      go_wp2_with fail
      go_ret
      rw [hX.out]
      exact ⟨rfl, ⟨_, _, _, _, _, HST.out⟩, Below.refl _ _⟩
    by_cases g3 : 0 < (m3 : Int)
    · have hX : Hid (readVarD P s = (P, some 0)) := HX.out (Or.inr (Or.inr (by have := HMM.out; omega)))
      clear HX HY hD
      go_enter Tryz.func145, Tryz.ntmps145
      go_wp2_with fail
      refine (K1.out _).mono ?_
      rintro e w1 ⟨rfl, hw⟩
      obtain rfl := hw.symm
      clear hw
      go_wp2_with fail
      go_ret
      rw [hX.out]
      exact ⟨rfl, ⟨_, _, _, _, _, HST.out⟩, Below.refl _ _⟩
    have hX : Hid (readVarD P s = ({ P with vars := P.vars ++ [s] }, none)) := HY.out hD (by have := HMM.out; omega) (by have := HMM.out; omega)
    have HA : Hid (∀ wx, Below w.heap.size w wx → ∃ v' w', (Builtin.append_ #[39, 39] 39 #[.slice a1 m1 n1, .slice (some ⟨wx.heap.size, 0, none⟩) 1 1]).run Tryz.prog (wx.alloc (.cells #[.string bs] 9)) = .ok v' w' ∧
      w'.cell? ⟨pb, 0, none⟩ = some (.slice a1 m1 n1) ∧ w'.frozen? ⟨pb, 0, none⟩ = false ∧ (∃ a n c, v' = .slice a n c) ∧ St (w'.setCell ⟨pb, 0, none⟩ v') B pb { P with vars := P.vars ++ [s] } v' (.slice a2 m2 n2) (.slice a3 m3 n3) ps qs ∧ Below B w (w'.setCell ⟨pb, 0, none⟩ v')) := fun wx hb => by
      obtain ⟨v', w', h1, h2, h3, h4, h5, h6⟩ := (HST.out.below hb).addVar (by have := HMM.out; omega) s
      rw [← HBS.out] at h1
      exact ⟨v', w', h1, h2, h3, h4, h5, (HB.out wx hb).trans h6⟩
    clear HX HY hD HB
    go_enter Tryz.func145, Tryz.ntmps145
    go_wp2_with fail
    refine (K1.out _).mono ?_
    rintro e w1 ⟨rfl, hw⟩
    obtain rfl := hw.symm
    clear hw K1
    go_wp2_with fail
    go_region_law first
      | (refine step_append_run rfl (.tmp 29) (.tmp 32) _ _ rfl _ _ rfl rfl _ _ hr ?_)
      | (refine step_calls rfl 176 #[.string bs] (by go_simp) _ (K2.out _ (Below.refl _ w).drew) ?_; rintro e wc ⟨rfl, hBc⟩; refine ⟨_, rfl, ?_⟩; obtain ⟨v', w2, hr, d0, d1, ⟨xa, xn, xc, rfl⟩, hS, hBe⟩ := HA.out wc hBc; have q0 := cell_keep hBc c0; have q1 := fun o => cell_keep (below1 wc o) q0)
    all_goals (go_wp2_with fail; go_ret)
    all_goals rw [hX.out]
    all_goals exact ⟨rfl, ⟨_, _, _, _, _, hS⟩, hBe⟩
end Go.Proofs.YtakmmpbkojhmhaaGreatDoor

/-
  Package prog: readFun, by a contract.
-/
namespace Go.Proofs.YtakmmpbkojhmhaaGreatDoor
open Go.RowKit Go.Extern.Stop Go.Stop Go.Extern

theorem containsI_any (zs : List Int) (v : Value) (x : Int) (w : World) (hm : zs.length ≤ 1000000) (h : IsInts w v zs) :
    Calls Tryz.prog 50 #[v, .int .i64 x] w fun e w' => e = .returned (.bool (zs.contains x)) ∧ w' = w := by
  rcases h with ⟨hz, a, c, rfl⟩ | ⟨hz, b, o, c, rfl, hc⟩
  · subst hz
    exact Tryz.slices_Contains_int_empty a c x w
  · have := Tryz.slices_Contains_int b o zs.length c zs x w (Nat.le_refl _) (by omega) hc
    rw [List.take_length] at this
    exact this
set_option maxRecDepth 100000 in
set_option maxHeartbeats 8000000 in
theorem readFun_any (a : Nat → Addr) (B pb : Nat) (P : ProgD) (s : Bs) (v1 v2 v3 : Value) (ps qs : List Value) (w : World) (hst : St w B pb P v1 v2 v3 ps qs) (hl1 : P.vars.length ≤ 100000) (hl : P.funs.length ≤ 100000) (hz : s.length ≤ 100000) (hE : Errs5 w a) (hM : MaxL w) :
    Calls Tryz.prog 146 #[.pointer (some ⟨pb, 0, none⟩), .string (S s)] w fun e w' => Does a B pb w w' (readFunD P s) e := by
  have HST : Hid (St w B pb P v1 v2 v3 ps qs) := hst
  have HE : Hid (Errs5 w a) := hE
  have lB : (listB s).length ≤ s.length := Nat.le_trans (cut_len _ [41]).2 (cut_len s [40]).2
  have lN : (listN s).length ≤ s.length := (cut_len s [40]).1
  obtain ⟨rt, hrt⟩ : ∃ r, r = Lib.trimPrefix (listB s) [32] := ⟨_, rfl⟩
  have lR : rt.length ≤ s.length := by rw [hrt]; exact Nat.le_trans (trim_len _ _) lB
  have lL := listL_length s
  have K1 : Hid (Calls Tryz.prog 177 #[.string (S s)] w fun e w' => ∃ lv, e = .returned (.tuple #[.string (S (listN s)), lv, .string (S (listB s)), .bool (listOk s)]) ∧ IsStrs w' lv (listL s) ∧ NewV w lv ∧ Below w.heap.size w w') := cutList_any s w hz hM
  have K2 : Hid (∀ wx, Calls Tryz.prog 92 #[.string (S (listB s)), .string ⟨#[32]⟩] wx fun e w' => e = .returned (.tuple #[.string (S rt), .bool (Lib.hasPrefix (listB s) [32])]) ∧ w' = wx) := fun wx => by rw [hrt]; exact cutp_any (listB s) [32] wx
  have K3 : Hid (∀ wx, Calls Tryz.prog 100 #[.string (S rt)] wx fun e w' => e = .returned (.bool (isNm rt)) ∧ w' = wx) := fun wx => isName_any rt wx
  have K4 : Hid (∀ wx, Below w.heap.size w wx → Calls Tryz.prog 178 #[v1] wx fun e w' => ∃ nb, e = .returned (finderF nb) ∧ NamesAt w' nb P.vars ∧ Below wx.heap.size wx w') := fun wx hb => finder_any P.vars v1 wx (hst.below hb).isProg.vars
  have K5 : Hid (∀ wx, Below w.heap.size w wx → Calls Tryz.prog 176 #[.string (S (listN s))] wx fun e w' => e = .returned (.string (S (listN s))) ∧ Below wx.heap.size wx w') := fun wx _ => clone_any (S (listN s)) wx (by rw [S_size]; omega)
  have HB : Hid (∀ wx, Below w.heap.size w wx → Below B w wx) := fun wx h => h.mono hst.size
  have HSZ : Hid (B ≤ w.heap.size ∧ (listL s).length ≤ 200000 ∧ P.vars.length ≤ 1000000 ∧ P.funs.length ≤ 1000000) := ⟨hst.size, by omega, by omega, by omega⟩
  have HX : Hid ((listOk s = false ∨ Lib.hasPrefix (listB s) [32] = false ∨ isNm rt = false ∨ 0 < P.stmts.length) → readFunD P s = (P, some 0)) := fun h => by
    unfold readFunD
    rw [← hrt, if_pos]
    rcases h with h | h | h | h
    · rw [h]; rfl
    · rw [h]; simp
    · rw [h]; simp
    · rw [show P.stmts.isEmpty = false by rw [List.isEmpty_eq_false_iff]; intro q; rw [q] at h; exact absurd h (by decide)]; simp
  have HY : Hid (listOk s = true → Lib.hasPrefix (listB s) [32] = true → isNm rt = true → P.stmts.length = 0 → readFunD P s = if ((listL s).map (idx P.vars)).contains (-1) || idx P.vars rt == -1 then (P, some 5) else ({ P with funs := P.funs ++ [⟨listN s, (listL s).map (idx P.vars), idx P.vars rt⟩] }, none)) := fun h1 h2 h3 h4 => by
    unfold readFunD
    rw [← hrt, if_neg]
    rw [h1, h2, h3, List.eq_nil_of_length_eq_zero h4]; decide
  obtain ⟨c0, c1, c2⟩ := hst.cells
  obtain ⟨a1, n1, rfl⟩ := owns_form hst.o1
  obtain ⟨a2, n2, rfl⟩ := owns_form hst.o2
  obtain ⟨a3, n3, rfl⟩ := owns_form hst.o3
  have hpb : pb < w.heap.size := (Array.getElem?_eq_some_iff.1 hst.blk).1
  obtain ⟨m1, hm1⟩ : ∃ m, m = P.vars.length := ⟨_, rfl⟩
  obtain ⟨m2, hm2⟩ : ∃ m, m = P.funs.length := ⟨_, rfl⟩
  obtain ⟨m3, hm3⟩ : ∃ m, m = P.stmts.length := ⟨_, rfl⟩
  have HMM : Hid (m1 = P.vars.length ∧ m2 = P.funs.length ∧ m3 = P.stmts.length) := ⟨hm1, hm2, hm3⟩
  rw [← hm1] at c0 K4
  rw [← hm2] at c1
  rw [← hm3] at c2
  rw [← hm1, ← hm2, ← hm3] at HST
  obtain ⟨D1, hD1⟩ : ∃ D, D = listOk s := ⟨_, rfl⟩
  obtain ⟨D2, hD2⟩ : ∃ D, D = Lib.hasPrefix (listB s) [32] := ⟨_, rfl⟩
  obtain ⟨D3, hD3⟩ : ∃ D, D = isNm rt := ⟨_, rfl⟩
  rw [← hD1] at K1 HX HY
  rw [← hD2] at K2 HX HY
  rw [← hD3] at K3 HX HY
  obtain ⟨bN, hbN⟩ : ∃ b, b = S (listN s) := ⟨_, rfl⟩
  obtain ⟨bB, hbB⟩ : ∃ b, b = S (listB s) := ⟨_, rfl⟩
  obtain ⟨bR, hbR⟩ : ∃ b, b = S rt := ⟨_, rfl⟩
  obtain ⟨bs, hbs⟩ : ∃ b, b = S s := ⟨_, rfl⟩
  have HBN : Hid (bN = S (listN s) ∧ bR = S rt) := ⟨hbN, hbR⟩
  rw [← hbN, ← hbB, ← hbs] at K1
  rw [← hbB, ← hbR] at K2
  rw [← hbR] at K3
  rw [← hbN] at K5
  rw [← hbs]
  clear hbs hbN hbB hbR hD1 hD2 hD3 hm1 hm2 hm3 hst hE hM hrt lB lN lR lL hl hl1 hz
  go_enter Tryz.func146, Tryz.ntmps146
  go_wp2_with fail
  refine K1.out.mono ?_
  rintro e w1 ⟨lv, rfl, hlv, -, hB1⟩
  have HLV : Hid (IsStrs w1 lv (listL s)) := hlv
  obtain ⟨la, lc, rfl, -, -⟩ := hlv
  have e0 := (HE.out.below hB1).c0
  have d2 := cell_keep hB1 c2
  have d0 := cell_keep hB1 c0
  clear K1
  go_wp2_with fail
  refine (K2.out _).mono ?_
  rintro e w2 ⟨rfl, hw⟩
  obtain rfl := hw.symm
  clear hw K2
  have FIN : Hid (readFunD P s = (P, some 0) → Does a B pb w w1 (readFunD P s) (.returned (.iface 231 (.pointer (some (a 0)))))) := fun h => by
    rw [h]
    exact ⟨rfl, ⟨_, _, _, _, _, HST.out.below hB1⟩, HB.out _ hB1⟩
  cases D1 with
  | false =>
    have hX := HX.out (Or.inl rfl)
    have HF : Hid _ := FIN.out hX
    clear hX HX HY
    go_wp2_with fail
    go_ret
    exact HF.out
  | true =>
  cases D2 with
  | false =>
    have hX := HX.out (Or.inr (Or.inl rfl))
    have HF : Hid _ := FIN.out hX
    clear hX HX HY
    go_wp2_with fail
    go_ret
    exact HF.out
  | true =>
  go_wp2_with fail
  refine (K3.out _).mono ?_
  rintro e w2 ⟨rfl, hw⟩
  obtain rfl := hw.symm
  clear hw K3
  cases D3 with
  | false =>
    have hX := HX.out (Or.inr (Or.inr (Or.inl rfl)))
    have HF : Hid _ := FIN.out hX
    clear hX HX HY
    go_wp2_with fail
    go_ret
    exact HF.out
  | true =>
  by_cases g3 : 0 < (m3 : Int)
  · have hX := HX.out (Or.inr (Or.inr (Or.inr (by have := HMM.out; omega))))
    have HF : Hid _ := FIN.out hX
    clear hX HX HY
    go_wp2_with fail
    go_ret
    exact HF.out
  have HY2 : Hid (readFunD P s = if ((listL s).map (idx P.vars)).contains (-1) || idx P.vars rt == -1 then (P, some 5) else ({ P with funs := P.funs ++ [⟨listN s, (listL s).map (idx P.vars), idx P.vars rt⟩] }, none)) := HY.out (by trivial) (by trivial) (by trivial) (by have := HMM.out; omega)
  clear HX HY FIN
  go_wp2_with fail
  refine (K4.out _ hB1).mono ?_
  rintro e w3 ⟨nb, rfl, hnb, hB3⟩
  have HNB : Hid (NamesAt w3 nb P.vars) := hnb
  have hB3w : Below w.heap.size w w3 := hB1.trans (hB3.mono hB1.size)
  have HLV3 : Hid (IsStrs w3 (.slice la (listL s).length lc) (listL s)) := HLV.out.below hB3
  clear hnb K4 HLV hB3 e0 d2 d0
  go_wp2_with fail
  refine (K5.out _ hB3w).mono ?_
  rintro e w4 ⟨rfl, hB4⟩
  have hB4w : Below w.heap.size w w4 := hB3w.trans (hB4.mono hB3w.size)
  have HN4 : Hid (NamesAt w4 nb P.vars ∧ IsStrs w4 (.slice la (listL s).length lc) (listL s)) := ⟨HNB.out.below hB4, HLV3.out.below hB4⟩
  clear hB4 K5 HNB HLV3
  go_wp2_with fail
  refine (eachSI P.vars (listL s) _ nb w4 HSZ.out.2.2.1 (by have := HSZ.out.2.1; omega) HN4.out.2 HN4.out.1).mono ?_
  rintro e w5 ⟨pv, rfl, hpv, hB5⟩
  have hB5w : Below w.heap.size w w5 := hB4w.trans (hB5.mono hB4w.size)
  have HPV : Hid (w5.ownsRow B 3 1 pv ((listL s).map (idx P.vars)).length (((listL s).map (idx P.vars)).map intV)) := owns_mono hpv (Nat.le_trans HSZ.out.1 hB4w.size)
  have HN5 : Hid (NamesAt w5 nb P.vars) := HN4.out.1.below hB5
  obtain ⟨pa, pc, rfl⟩ := owns_form hpv
  obtain ⟨rv, hrv⟩ : ∃ r, r = idx P.vars rt := ⟨_, rfl⟩
  have K6 : Hid (Calls Tryz.prog 198 #[.string bR, .pointer (some ⟨nb, 0, none⟩)] w5 fun e w' => e = .returned (.int .i64 rv) ∧ w' = w5) := by
    rw [HBN.out.2, hrv]; exact finder1_any P.vars rt nb w5 HSZ.out.2.2.1 HN5.out
  obtain ⟨L, hLe⟩ : ∃ L, L = (listL s).map (idx P.vars) := ⟨_, rfl⟩
  have hLl : L.length ≤ 200000 := by rw [hLe, List.length_map]; exact HSZ.out.2.1
  rw [← hLe, ← hrv] at HY2
  rw [← hLe] at HPV
  have KC : Hid (∀ o, Calls Tryz.prog 50 #[.slice pa L.length pc, .int .i64 (-1)] (w5.alloc o) fun e w' => e = .returned (.bool (L.contains (-1))) ∧ w' = w5.alloc o) := fun o => containsI_any L _ (-1) _ (by omega) ((isCap_of_owns HPV.out).below (below1 w5 o)).1
  obtain ⟨D4, hD4⟩ : ∃ D, D = L.contains (-1) := ⟨_, rfl⟩
  rw [← hD4] at KC HY2
  have hLle : ((listL s).map (idx P.vars)).length = L.length := by rw [hLe]
  rw [hLle]
  obtain ⟨F, hF⟩ : ∃ F : FunD, F = ⟨listN s, L, rv⟩ := ⟨_, rfl⟩
  have HA : Hid (∀ o, ∃ v' w', (Builtin.append_ #[40, 40] 40 #[.slice a2 m2 n2, .slice (some ⟨(w5.alloc o).drew.heap.size, 0, none⟩) 1 1]).run Tryz.prog ((w5.alloc o).drew.alloc (.cells #[.string bN, .slice pa L.length pc, .int .i64 rv] 78)) = .ok v' w' ∧
      w'.cell? ⟨pb, 1, none⟩ = some (.slice a2 m2 n2) ∧ w'.frozen? ⟨pb, 1, none⟩ = false ∧ (∃ a n c, v' = .slice a n c) ∧ St (w'.setCell ⟨pb, 1, none⟩ v') B pb { P with funs := P.funs ++ [F] } (.slice a1 m1 n1) v' (.slice a3 m3 n3) (ps ++ [.slice pa L.length pc]) qs ∧ Below B w (w'.setCell ⟨pb, 1, none⟩ v')) := fun o => by
    have hb6 : Below w.heap.size w (w5.alloc o) := hB5w.alloc hB5w.size o
    have := (HST.out.below hb6.drew).addFun HSZ.out.2.2.2 F (.slice pa L.length pc) (by rw [hF]; exact owns_below HPV.out (below1 w5 o).drew)
    obtain ⟨v', w', h1, h2, h3, h4, h5, h6⟩ := this
    rw [hF] at h1
    rw [HBN.out.1]
    exact ⟨v', w', h1, h2, h3, h4, h5, (HB.out _ hb6.drew).trans h6⟩
  have HDOES : Hid (∀ o, readFunD P s = (P, some 5) → Does a B pb w (w5.alloc o) (readFunD P s) (.returned (.iface 231 (.pointer (some (a 5)))))) := fun o h => by
    rw [h]
    exact ⟨rfl, ⟨_, _, _, _, _, HST.out.below (hB5w.alloc hB5w.size o)⟩, HB.out _ (hB5w.alloc hB5w.size o)⟩
  have q1 := fun o => cell_keep (hB5w.alloc hB5w.size o) c1
  have q1' := fun o o' => cell_keep ((hB5w.alloc hB5w.size o).alloc (by have := hB5w.size; simp; omega) o') c1
  have e5 := fun o => (HE.out.below (hB5w.alloc hB5w.size o)).c5
  have hpb5 : pb < w5.heap.size := Nat.lt_of_lt_of_le hpb hB5w.size
  rw [← hF] at HY2
  clear hpv hB5 HN4 hrv hLe hD4 hLle hF HPV HN5 hB4w hB3w hB1 c0 c1 c2 hLl
  go_wp2_with fail
  refine K6.out.mono ?_
  rintro e w6 ⟨rfl, hw⟩
  obtain rfl := hw.symm
  clear hw K6
  go_wp2_with fail
  refine (KC.out _).mono ?_
  rintro e w6 ⟨rfl, hw⟩
  obtain rfl := hw.symm
  clear hw KC
  cases D4 with
  | true =>
    have HF : Hid _ := HDOES.out (.cells #[.string bN, .slice pa L.length pc, .int .i64 rv] 78) HY2.out
    go_wp2_with fail
    go_ret
    exact HF.out
  | false =>
    by_cases hr1 : rv = -1
    · subst hr1
      have HF : Hid _ := HDOES.out (.cells #[.string bN, .slice pa L.length pc, .int .i64 (-1)] 78) (by rw [HY2.out]; rfl)
      go_wp2_with fail
      go_ret
      exact HF.out
    · have hbq : (rv == -1) = false := beq_eq_false_iff_ne.2 hr1
      have HZ : Hid (readFunD P s = ({ P with funs := P.funs ++ [F] }, none)) := by
        show readFunD P s = _
        rw [HY2.out, hbq]; rfl
      obtain ⟨v', w7, hr0, d0, d1, ⟨xa, xn, xc, rfl⟩, hS, hBe⟩ := HA.out (.cells #[.string bN, .slice pa L.length pc, .int .i64 rv] 78)
      have HS7 : Hid (St (w7.setCell ⟨pb, 1, none⟩ (.slice xa xn xc)) B pb { P with funs := P.funs ++ [F] } (.slice a1 m1 n1) (.slice xa xn xc) (.slice a3 m3 n3) (ps ++ [.slice pa L.length pc]) qs ∧ Below B w (w7.setCell ⟨pb, 1, none⟩ (.slice xa xn xc))) := ⟨hS, hBe⟩
      have hq1 := q1 (.cells #[.string bN, .slice pa L.length pc, .int .i64 rv] 78)
      obtain ⟨w6, hw6⟩ : ∃ w6, w6 = w5.alloc (.cells #[.string bN, .slice pa L.length pc, .int .i64 rv] 78) := ⟨_, rfl⟩
      have t0 : w6.cell? ⟨w5.heap.size, 0, none⟩ = some (.string bN) := by rw [hw6]; simp
      have t1 : w6.cell? ⟨w5.heap.size, 1, none⟩ = some (.slice pa L.length pc) := by rw [hw6]; simp
      have t2 : w6.cell? ⟨w5.heap.size, 2, none⟩ = some (.int .i64 rv) := by rw [hw6]; simp
      rw [← hw6] at hq1 hr0
      have hq2 := fun o => cell_keep (below1 w6 o) hq1
      have HR : Hid ((Builtin.append_ #[40, 40] 40 #[.slice a2 m2 n2, .slice (some ⟨w6.heap.size, 0, none⟩) 1 1]).run Tryz.prog ((w6.alloc (.cells #[.string bN, .slice pa L.length pc, .int .i64 rv] 78)).drew) = .ok (.slice xa xn xc) w7) := hr0
      clear hr0 hS hBe HA HDOES HY2 hr1 q1 q1' e5
      go_wp2_with fail
      rw [← hw6]
      clear hw6
      go_region_law (refine step_append_run rfl (.tmp 72) (.tmp 74) _ _ rfl _ _ rfl rfl _ _ HR.out ?_)
      all_goals (go_wp2_with fail; go_ret)
      all_goals rw [HZ.out]
      all_goals exact ⟨rfl, ⟨_, _, _, _, _, HS7.out.1⟩, HS7.out.2⟩
end Go.Proofs.YtakmmpbkojhmhaaGreatDoor

/-
  Package prog: readLine, by a contract, where readStmt keeps its own.
-/
namespace Go.Proofs.YtakmmpbkojhmhaaGreatDoor
open Go.RowKit Go.Extern.Stop Go.Stop Go.Extern

/-- readStmt's contract. -/
def ReadStmtOk : Prop := ∀ (a : Nat → Addr) (B pb : Nat) (P : ProgD) (s : Bs) (v1 v2 v3 : Value) (ps qs : List Value) (w : World), St w B pb P v1 v2 v3 ps qs → P.vars.length ≤ 100000 → P.funs.length ≤ 100000 → P.stmts.length ≤ 100000 → s.length ≤ 10000 → Errs5 w a → MaxL w →
  Calls Tryz.prog 147 #[.pointer (some ⟨pb, 0, none⟩), .string (S s)] w fun e w' => Does a B pb w w' (readStmtD P s) e

set_option maxHeartbeats 2000000 in
theorem readLine_any (OK : ReadStmtOk) (a : Nat → Addr) (B pb : Nat) (P : ProgD) (s : Bs) (v1 v2 v3 : Value) (ps qs : List Value) (w : World) (hst : St w B pb P v1 v2 v3 ps qs) (hl1 : P.vars.length ≤ 100000) (hl2 : P.funs.length ≤ 100000) (hl3 : P.stmts.length ≤ 100000) (hz : s.length ≤ 10000) (hE : Errs5 w a) (hM : MaxL w) :
    Calls Tryz.prog 114 #[.pointer (some ⟨pb, 0, none⟩), .string (S s)] w fun e w' => Does a B pb w w' (readLineD P s) e := by
  have t1 := trim_len s [118, 97, 114, 32]
  have t2 := trim_len s [102, 110, 32]
  have KV : Hid (Calls Tryz.prog 145 #[.pointer (some ⟨pb, 0, none⟩), .string (S (Lib.trimPrefix s [118, 97, 114, 32]))] w fun e w' => Does a B pb w w' (readVarD P (Lib.trimPrefix s [118, 97, 114, 32])) e) := readVar_any a B pb P _ v1 v2 v3 ps qs w hst hl1 (by omega) hE
  have KF : Hid (Calls Tryz.prog 146 #[.pointer (some ⟨pb, 0, none⟩), .string (S (Lib.trimPrefix s [102, 110, 32]))] w fun e w' => Does a B pb w w' (readFunD P (Lib.trimPrefix s [102, 110, 32])) e) := readFun_any a B pb P _ v1 v2 v3 ps qs w hst hl1 hl2 (by omega) hE hM
  have KS : Hid (Calls Tryz.prog 147 #[.pointer (some ⟨pb, 0, none⟩), .string (S s)] w fun e w' => Does a B pb w w' (readStmtD P s) e) := OK a B pb P s v1 v2 v3 ps qs w hst hl1 hl2 hl3 hz hE hM
  have C1 : Hid (Calls Tryz.prog 92 #[.string (S s), .string ⟨#[118, 97, 114, 32]⟩] w fun e w' => e = .returned (.tuple #[.string (S (Lib.trimPrefix s [118, 97, 114, 32])), .bool (Lib.hasPrefix s [118, 97, 114, 32])]) ∧ w' = w) := cutp_any s [118, 97, 114, 32] w
  have C2 : Hid (Calls Tryz.prog 92 #[.string (S s), .string ⟨#[102, 110, 32]⟩] w fun e w' => e = .returned (.tuple #[.string (S (Lib.trimPrefix s [102, 110, 32])), .bool (Lib.hasPrefix s [102, 110, 32])]) ∧ w' = w) := cutp_any s [102, 110, 32] w
  have HR : Hid (readLineD P s = if Lib.hasPrefix s [118, 97, 114, 32] then readVarD P (Lib.trimPrefix s [118, 97, 114, 32]) else if Lib.hasPrefix s [102, 110, 32] then readFunD P (Lib.trimPrefix s [102, 110, 32]) else readStmtD P s) := by
    show readLineD P s = _
    unfold readLineD; rfl
  obtain ⟨x1, hx1⟩ : ∃ x, x = Lib.trimPrefix s [118, 97, 114, 32] := ⟨_, rfl⟩
  obtain ⟨x2, hx2⟩ : ∃ x, x = Lib.trimPrefix s [102, 110, 32] := ⟨_, rfl⟩
  obtain ⟨D1, hD1⟩ : ∃ x, x = Lib.hasPrefix s [118, 97, 114, 32] := ⟨_, rfl⟩
  obtain ⟨D2, hD2⟩ : ∃ x, x = Lib.hasPrefix s [102, 110, 32] := ⟨_, rfl⟩
  rw [← hx1, ← hx2, ← hD1, ← hD2] at HR
  rw [← hx1] at KV
  rw [← hx2] at KF
  rw [← hx1, ← hD1] at C1
  rw [← hx2, ← hD2] at C2
  obtain ⟨y1, hy1⟩ : ∃ x, x = S x1 := ⟨_, rfl⟩
  obtain ⟨y2, hy2⟩ : ∃ x, x = S x2 := ⟨_, rfl⟩
  obtain ⟨ys, hys⟩ : ∃ x, x = S s := ⟨_, rfl⟩
  rw [← hy1] at KV C1
  rw [← hy2] at KF C2
  rw [← hys] at C1 C2 KS ⊢
  clear hx1 hx2 hD1 hD2 hy1 hy2 hys t1 t2 hst hl1 hl2 hl3 hz hE hM OK
  cases D1 with
  | true =>
    have hX : Hid (readLineD P s = readVarD P x1) := by show readLineD P s = _; rw [HR.out]; rfl
    clear HR
    go_enter Tryz.func114, Tryz.ntmps114
    go_wp2_with fail
    refine C1.out.mono ?_
    rintro e w1 ⟨rfl, hw⟩
    obtain rfl := hw.symm
    clear hw
    go_wp2_with fail
    refine KV.out.mono ?_
    rintro e w1 ⟨rfl, h2, h3⟩
    have HF : Hid (Does a B pb w w1 (readLineD P s) (.returned (errV a (readVarD P x1).2))) := by
      rw [hX.out]; exact ⟨rfl, h2, h3⟩
    obtain ⟨E, hE⟩ : ∃ E, E = errV a (readVarD P x1).2 := ⟨_, rfl⟩
    rw [← hE] at HF ⊢
    clear hE h2 h3
    go_wp2_with fail
    go_ret
    exact HF.out
  | false =>
    cases D2 with
    | true =>
      have hX : Hid (readLineD P s = readFunD P x2) := by show readLineD P s = _; rw [HR.out]; rfl
      clear HR
      go_enter Tryz.func114, Tryz.ntmps114
      go_wp2_with fail
      refine C1.out.mono ?_
      rintro e w1 ⟨rfl, hw⟩
      obtain rfl := hw.symm
      clear hw
      go_wp2_with fail
      refine C2.out.mono ?_
      rintro e w1 ⟨rfl, hw⟩
      obtain rfl := hw.symm
      clear hw
      go_wp2_with fail
      refine KF.out.mono ?_
      rintro e w1 ⟨rfl, h2, h3⟩
      have HF : Hid (Does a B pb w w1 (readLineD P s) (.returned (errV a (readFunD P x2).2))) := by
        rw [hX.out]; exact ⟨rfl, h2, h3⟩
      obtain ⟨E, hE⟩ : ∃ E, E = errV a (readFunD P x2).2 := ⟨_, rfl⟩
      rw [← hE] at HF ⊢
      clear hE h2 h3
      go_wp2_with fail
      go_ret
      exact HF.out
    | false =>
      have hX : Hid (readLineD P s = readStmtD P s) := by show readLineD P s = _; rw [HR.out]; rfl
      clear HR
      go_enter Tryz.func114, Tryz.ntmps114
      go_wp2_with fail
      refine C1.out.mono ?_
      rintro e w1 ⟨rfl, hw⟩
      obtain rfl := hw.symm
      clear hw
      go_wp2_with fail
      refine C2.out.mono ?_
      rintro e w1 ⟨rfl, hw⟩
      obtain rfl := hw.symm
      clear hw
      go_wp2_with fail
      refine KS.out.mono ?_
      rintro e w1 ⟨rfl, h2, h3⟩
      have HF : Hid (Does a B pb w w1 (readLineD P s) (.returned (errV a (readStmtD P s).2))) := by
        rw [hX.out]; exact ⟨rfl, h2, h3⟩
      obtain ⟨E, hE⟩ : ∃ E, E = errV a (readStmtD P s).2 := ⟨_, rfl⟩
      rw [← hE] at HF ⊢
      clear hE h2 h3
      go_wp2_with fail
      go_ret
      exact HF.out
end Go.Proofs.YtakmmpbkojhmhaaGreatDoor

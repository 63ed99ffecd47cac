/-
  Package prog: parseRight, by a contract.
-/
import Derived.Test.YtakmmpbkojhmhaaGreatDoorPP
import Derived.Test.YtakmmpbkojhmhaaGreatDoorPMem
namespace Go.Proofs.YtakmmpbkojhmhaaGreatDoor
open Go.RowKit Go.Extern.Stop Go.Stop Go.Extern

theorem cutp_any (s p : Bs) (w : World) : Calls Tryz.prog 92 #[.string (S s), .string (S p)] w fun e w' => e = .returned (.tuple #[.string (S (Lib.trimPrefix s p)), .bool (Lib.hasPrefix s p)]) ∧ w' = w := by
  have := Tryz.strings_CutPrefix (S s) (S p) w
  rw [S_data, S_data] at this
  exact this
theorem isStrs_nil (w : World) : IsStrs w (.slice none 0 0) [] := ⟨none, 0, rfl, Nat.le_refl _, fun _ hj => absurd hj (Nat.not_lt_zero _)⟩

/-- What parse and parseRight answer. -/
def Sent (w w' : World) (d : SentD × Bool) (e : Ending) : Prop :=
  ∃ lv, e = .returned (.tuple #[.agg #[.string (S d.1.kind), .string (S d.1.x), .string (S d.1.y), lv], .bool d.2]) ∧ IsStrs w' lv d.1.args ∧ NewV w lv ∧ Below w.heap.size w w'

set_option maxHeartbeats 4000000 in
theorem right_new (r : Bs) (w : World) (h : r = kNew) : Calls Tryz.prog 199 #[.string (S r)] w fun e w' => Sent w w' (rightD r) e := by
  have hk : (S r).toList = [110, 101, 119] := by rw [S_toList, h]; rfl
  have HX : Hid (rightD r = (⟨kNew, [], [], []⟩, true)) := by rw [h]; exact rfl
  obtain ⟨b, hb⟩ : ∃ b, b = S r := ⟨_, rfl⟩
  rw [← hb] at hk ⊢
  clear hb h
  go_enter Tryz.func199, Tryz.ntmps199
  go_wp2_with fail
  refine bodyPost_ret (v := .tuple #[.agg #[.string (S kNew), .string (S []), .string (S []), .slice none 0 0], .bool true]) (by simp [results, Tryz.results199, go_sem, S, kNew]) rfl ?_
  rw [HX.out]
  exact ⟨.slice none 0 0, rfl, isStrs_nil _, newV_nil _, below1 w _⟩

theorem trim_len (s p : Bs) : (Lib.trimPrefix s p).length ≤ s.length := by
  unfold Lib.trimPrefix
  by_cases h : Lib.hasPrefix s p = true
  · rw [if_pos h, List.length_drop]; omega
  · rw [if_neg h]; exact Nat.le_refl _
set_option maxHeartbeats 4000000 in
theorem right_call_any (r : Bs) (w : World) (hs : r.length ≤ 100000) (hm : MaxL w) (h0 : r ≠ kNew) (h1 : Lib.hasPrefix r [99, 97, 108, 108, 32] = true) : Calls Tryz.prog 199 #[.string (S r)] w fun e w' => Sent w w' (rightD r) e := by
  have hk : ((S r).toList == [110, 101, 119]) = false := by rw [S_toList]; exact beq_eq_false_iff_ne.2 h0
  obtain ⟨q, hq⟩ : ∃ q, q = Lib.trimPrefix r [99, 97, 108, 108, 32] := ⟨_, rfl⟩
  have hql : q.length ≤ 100000 := by
    rw [hq]
    exact Nat.le_trans (trim_len r _) hs
  have HX : Hid (rightD r = (⟨kCall, [], listN q, listL q⟩, listOk q && (listB q).isEmpty)) := by
    show rightD r = _
    unfold rightD
    rw [beq_eq_false_iff_ne.2 h0, h1, ← hq]; rfl
  have K1 : Hid (∀ wx, Calls Tryz.prog 92 #[.string (S r), .string ⟨#[99, 97, 108, 108, 32]⟩] wx fun e w' => e = .returned (.tuple #[.string (S q), .bool true]) ∧ w' = wx) := fun wx => by
    have := cutp_any r [99, 97, 108, 108, 32] wx
    rw [h1, ← hq] at this
    exact this
  have K2 : Hid (∀ wx, Below w.heap.size w wx → Calls Tryz.prog 177 #[.string (S q)] wx fun e w' => ∃ lv, e = .returned (.tuple #[.string (S (listN q)), lv, .string (S (listB q)), .bool (listOk q)]) ∧ IsStrs w' lv (listL q) ∧ NewV wx lv ∧ Below wx.heap.size wx w') := fun wx hb => cutList_any q wx hql (hm.below hb)
  have hie : (S (listB q)).toList.isEmpty = (listB q).isEmpty := by rw [S_toList]
  obtain ⟨D1, hD1⟩ : ∃ D, D = listOk q := ⟨_, rfl⟩
  obtain ⟨D2, hD2⟩ : ∃ D, D = (listB q).isEmpty := ⟨_, rfl⟩
  obtain ⟨bN, hbN⟩ : ∃ D, D = S (listN q) := ⟨_, rfl⟩
  obtain ⟨bB, hbB⟩ : ∃ D, D = S (listB q) := ⟨_, rfl⟩
  obtain ⟨bq, hbq⟩ : ∃ D, D = S q := ⟨_, rfl⟩
  obtain ⟨br, hbr⟩ : ∃ D, D = S r := ⟨_, rfl⟩
  rw [← hD1, ← hbN, ← hbB, ← hbq] at K2
  rw [← hbq, ← hbr] at K1
  rw [← hbr] at hk ⊢
  rw [← hD2, ← hbB] at hie
  rw [← hD1, ← hD2] at HX
  have HBN : Hid (bN = S (listN q)) := hbN
  clear hbN hbB hbq hbr hD1 hD2 hq hql hs hm h0 h1
  go_enter Tryz.func199, Tryz.ntmps199
  go_wp2_with fail
  refine (K1.out _).mono ?_
  rintro e w1 ⟨rfl, hw⟩
  obtain rfl := hw.symm
  clear hw
  go_wp2_with fail
  refine (K2.out _ (below1 w _)).mono ?_
  rintro e w2 ⟨lv, rfl, hv, hnv, hB2⟩
  have HNV : Hid (NewV w lv ∧ lv.ownBlock ≠ some w.heap.size) := ⟨hnv.mono (below1 w _), fun e => by have := hnv _ e; rw [World.size_alloc] at this; omega⟩
  clear hnv
  have HLS : Hid (IsStrs w2 lv (listL q)) := hv
  obtain ⟨va, vc, rfl, -, -⟩ := hv
  have hBw : Below w.heap.size w w2 := (below1 w _).trans (hB2.mono (below1 w _).size)
  have hH := block_keep hB2 (heap_new w (.cells #[.string ⟨#[]⟩, .string ⟨#[]⟩, .string ⟨#[]⟩, .slice none 0 0] 203))
  have f0 := frozen_of_block hH 0
  have f1 := frozen_of_block hH 1
  have f2 := frozen_of_block hH 2
  have f3 := frozen_of_block hH 3
  have c0 := Lib.cell_of_heap hH 0
  have c1 := Lib.cell_of_heap hH 1
  have c2 := Lib.cell_of_heap hH 2
  have c3 := Lib.cell_of_heap hH 3
  simp only [List.getElem?_toArray, List.getElem?_cons_zero, List.getElem?_cons_succ] at c0 c1 c2 c3
  have HH : Hid (w2.heap[w.heap.size]? = some (.cells #[.string ⟨#[]⟩, .string ⟨#[]⟩, .string ⟨#[]⟩, .slice none 0 0] 203 (0, 0))) := hH
  clear hH K1 K2 hB2
  have HZ : Hid (∀ x1 x2 x3 x4, IsStrs ((((w2.setCell ⟨w.heap.size, 0, none⟩ x1).setCell ⟨w.heap.size, 1, none⟩ x2).setCell ⟨w.heap.size, 2, none⟩ x3).setCell ⟨w.heap.size, 3, none⟩ x4) (.slice va (listL q).length vc) (listL q) ∧ Below w.heap.size w ((((w2.setCell ⟨w.heap.size, 0, none⟩ x1).setCell ⟨w.heap.size, 1, none⟩ x2).setCell ⟨w.heap.size, 2, none⟩ x3).setCell ⟨w.heap.size, 3, none⟩ x4)) := fun x1 x2 x3 x4 =>
    ⟨(((HLS.out.setCell _ _ HNV.out.2).setCell _ _ HNV.out.2).setCell _ _ HNV.out.2).setCell _ _ HNV.out.2, (((hBw.setCell (Nat.le_refl _) _).setCell (Nat.le_refl _) _).setCell (Nat.le_refl _) _).setCell (Nat.le_refl _) _⟩
  cases D1 with
  | false =>
    go_wp2_with fail
    refine bodyPost_ret (v := .tuple #[.agg #[.string ⟨#[99, 97, 108, 108]⟩, .string ⟨#[]⟩, .string bN, .slice va (listL q).length vc], .bool false]) (by simp [results, Tryz.results199, go_sem, c0, c1, c2, c3]) rfl ?_
    rw [HX.out, HBN.out]
    exact ⟨.slice va (listL q).length vc, rfl, (HZ.out _ _ _ _).1, HNV.out.1, (HZ.out _ _ _ _).2⟩
  | true =>
    go_wp2_with fail
    refine bodyPost_ret (v := .tuple #[.agg #[.string ⟨#[99, 97, 108, 108]⟩, .string ⟨#[]⟩, .string bN, .slice va (listL q).length vc], .bool D2]) (by simp [results, Tryz.results199, go_sem, c0, c1, c2, c3]) rfl ?_
    rw [HX.out, HBN.out]
    exact ⟨.slice va (listL q).length vc, by rw [Bool.true_and]; rfl, (HZ.out _ _ _ _).1, HNV.out.1, (HZ.out _ _ _ _).2⟩

/-- The three forms, as parseRight lays them. -/
abbrev formsO : Obj := .cells #[.string ⟨#[38]⟩, .string ⟨#[97, 100, 100, 114]⟩, .string ⟨#[42]⟩, .string ⟨#[108, 111, 97, 100]⟩, .string ⟨#[102, 110, 32]⟩, .string ⟨#[102, 117, 110]⟩] 223

set_option maxRecDepth 100000 in
set_option maxHeartbeats 4000000 in
theorem right_forms (r : Bs) (w : World) (h0 : r ≠ kNew) (h1 : Lib.hasPrefix r [99, 97, 108, 108, 32] = false) : Calls Tryz.prog 199 #[.string (S r)] w fun e w' => Sent w w' (rightD r) e := by
  have hk : ((S r).toList == [110, 101, 119]) = false := by rw [S_toList]; exact beq_eq_false_iff_ne.2 h0
  have hr0 : rightD r = if Lib.hasPrefix r [38] then (⟨kAddr, [], Lib.trimPrefix r [38], []⟩, isNm (Lib.trimPrefix r [38]))
      else if Lib.hasPrefix r [42] then (⟨kLoad, [], Lib.trimPrefix r [42], []⟩, isNm (Lib.trimPrefix r [42]))
      else if Lib.hasPrefix r [102, 110, 32] then (⟨kFun, [], Lib.trimPrefix r [102, 110, 32], []⟩, isNm (Lib.trimPrefix r [102, 110, 32]))
      else (⟨kCopy, [], r, []⟩, isNm r) := by
    unfold rightD
    rw [beq_eq_false_iff_ne.2 h0, h1]; rfl
  have KP : Hid (∀ wx p, Calls Tryz.prog 92 #[.string (S r), .string (S p)] wx fun e w' => e = .returned (.tuple #[.string (S (Lib.trimPrefix r p)), .bool (Lib.hasPrefix r p)]) ∧ w' = wx) := fun wx p => cutp_any r p wx
  have KI : Hid (∀ wx l, Calls Tryz.prog 100 #[.string (S l)] wx fun e w' => e = .returned (.bool (isNm l)) ∧ w' = wx) := fun wx l => isName_any l wx
  have K0 : Hid (∀ wx, Calls Tryz.prog 92 #[.string (S r), .string ⟨#[99, 97, 108, 108, 32]⟩] wx fun e w' => ∃ X, e = .returned (.tuple #[.string X, .bool false]) ∧ w' = wx) := fun wx => by
    have := KP.out wx [99, 97, 108, 108, 32]
    rw [h1] at this
    exact this.mono fun e w' h => ⟨_, h.1, h.2⟩
  cases g1 : Lib.hasPrefix r [38] with
  | true =>
    obtain ⟨y, hy⟩ : ∃ y, y = Lib.trimPrefix r [38] := ⟨_, rfl⟩
    have K1 : Hid (∀ wx, Calls Tryz.prog 92 #[.string (S r), .string ⟨#[38]⟩] wx fun e w' => e = .returned (.tuple #[.string (S y), .bool true]) ∧ w' = wx) := fun wx => by
      have := KP.out wx [38]
      rw [g1, ← hy] at this
      exact this
    have KY : Hid (∀ wx, Calls Tryz.prog 100 #[.string (S y)] wx fun e w' => e = .returned (.bool (isNm y)) ∧ w' = wx) := fun wx => KI.out wx y
    have hr1 : rightD r = (⟨kAddr, [], y, []⟩, isNm y) := by rw [hr0, g1, hy]; rfl
    obtain ⟨D, hD⟩ : ∃ D, D = isNm y := ⟨_, rfl⟩
    obtain ⟨byy, hby⟩ : ∃ D, D = S y := ⟨_, rfl⟩
    obtain ⟨br, hbr⟩ : ∃ D, D = S r := ⟨_, rfl⟩
    rw [← hD] at hr1
    rw [← hby, ← hD] at KY
    rw [← hby] at K1
    rw [← hbr] at K1
    rw [← hbr] at K0 hk ⊢
    have HX : Hid (rightD r = (⟨kAddr, [], y, []⟩, D) ∧ byy = S y) := ⟨hr1, hby⟩
    clear hr0 hr1 hy hD hby hbr KP KI g1 h0 h1
    go_enter Tryz.func199, Tryz.ntmps199
    go_wp2_with fail
    refine (K0.out _).mono ?_
    rintro e w1 ⟨X, rfl, hw⟩
    obtain rfl := hw.symm
    clear hw K0
    go_wp2_with fail
    refine wp_loop_rounds 1 ?_
    rw [rounds_succ]
    go_wp2_with fail
    refine (K1.out _).mono ?_
    rintro e w1 ⟨rfl, hw⟩
    obtain rfl := hw.symm
    clear hw K1
    go_wp2_with fail
    go_region_with (go_at_call 100; refine (KY.out _).mono ?_; rintro e w' ⟨rfl, rfl⟩)
    all_goals (go_wp2_with fail)
    all_goals refine bodyPost_ret (v := .tuple #[.agg #[.string ⟨#[97, 100, 100, 114]⟩, .string ⟨#[]⟩, .string byy, .slice none 0 0], .bool D]) (by simp [results, Tryz.results199, go_sem, Act.put]) rfl ?_
    all_goals rw [HX.out.1, HX.out.2]
    all_goals refine ⟨_, rfl, isStrs_nil _, newV_nil _, ?_⟩
    all_goals repeat (first
      | exact Below.refl _ _
      | refine Below.drew ?_
      | refine Below.alloc ?_ (by simp; try omega) _)
  | false =>
    cases g2 : Lib.hasPrefix r [42] with
    | true =>
      obtain ⟨y, hy⟩ : ∃ y, y = Lib.trimPrefix r [42] := ⟨_, rfl⟩
      have K1 : Hid (∀ wx, Calls Tryz.prog 92 #[.string (S r), .string ⟨#[38]⟩] wx fun e w' => ∃ X, e = .returned (.tuple #[.string X, .bool false]) ∧ w' = wx) := fun wx => by
        have := KP.out wx [38]
        rw [g1] at this
        exact this.mono fun e w' h => ⟨_, h.1, h.2⟩
      have K2 : Hid (∀ wx, Calls Tryz.prog 92 #[.string (S r), .string ⟨#[42]⟩] wx fun e w' => e = .returned (.tuple #[.string (S y), .bool true]) ∧ w' = wx) := fun wx => by
        have := KP.out wx [42]
        rw [g2, ← hy] at this
        exact this
      have KY : Hid (∀ wx, Calls Tryz.prog 100 #[.string (S y)] wx fun e w' => e = .returned (.bool (isNm y)) ∧ w' = wx) := fun wx => KI.out wx y
      have hr1 : rightD r = (⟨kLoad, [], y, []⟩, isNm y) := by rw [hr0, g1, g2, hy]; rfl
      obtain ⟨D, hD⟩ : ∃ D, D = isNm y := ⟨_, rfl⟩
      obtain ⟨byy, hby⟩ : ∃ D, D = S y := ⟨_, rfl⟩
      obtain ⟨br, hbr⟩ : ∃ D, D = S r := ⟨_, rfl⟩
      rw [← hD] at hr1
      rw [← hby, ← hD] at KY
      rw [← hby] at K2
      rw [← hbr] at K1
      rw [← hbr] at K2
      rw [← hbr] at K0 hk ⊢
      have HX : Hid (rightD r = (⟨kLoad, [], y, []⟩, D) ∧ byy = S y) := ⟨hr1, hby⟩
      clear hr0 hr1 hy hD hby hbr KP KI g1 g2 h0 h1
      go_enter Tryz.func199, Tryz.ntmps199
      go_wp2_with fail
      refine (K0.out _).mono ?_
      rintro e w1 ⟨X, rfl, hw⟩
      obtain rfl := hw.symm
      clear hw K0
      go_wp2_with fail
      refine wp_loop_rounds 2 ?_
      rw [rounds_succ]
      go_wp2_with fail
      refine (K1.out _).mono ?_
      rintro e w1 ⟨X0, rfl, hw⟩
      obtain rfl := hw.symm
      clear hw K1
      go_wp2_with fail
      rw [rounds_succ]
      go_wp2_with fail
      refine (K2.out _).mono ?_
      rintro e w1 ⟨rfl, hw⟩
      obtain rfl := hw.symm
      clear hw K2
      go_wp2_with fail
      go_region_with (go_at_call 100; refine (KY.out _).mono ?_; rintro e w' ⟨rfl, rfl⟩)
      all_goals (go_wp2_with fail)
      all_goals refine bodyPost_ret (v := .tuple #[.agg #[.string ⟨#[108, 111, 97, 100]⟩, .string ⟨#[]⟩, .string byy, .slice none 0 0], .bool D]) (by simp [results, Tryz.results199, go_sem, Act.put]) rfl ?_
      all_goals rw [HX.out.1, HX.out.2]
      all_goals refine ⟨_, rfl, isStrs_nil _, newV_nil _, ?_⟩
      all_goals repeat (first
        | exact Below.refl _ _
        | refine Below.drew ?_
        | refine Below.alloc ?_ (by simp; try omega) _)
    | false =>
      cases g3 : Lib.hasPrefix r [102, 110, 32] with
      | true =>
        obtain ⟨y, hy⟩ : ∃ y, y = Lib.trimPrefix r [102, 110, 32] := ⟨_, rfl⟩
        have K1 : Hid (∀ wx, Calls Tryz.prog 92 #[.string (S r), .string ⟨#[38]⟩] wx fun e w' => ∃ X, e = .returned (.tuple #[.string X, .bool false]) ∧ w' = wx) := fun wx => by
          have := KP.out wx [38]
          rw [g1] at this
          exact this.mono fun e w' h => ⟨_, h.1, h.2⟩
        have K2 : Hid (∀ wx, Calls Tryz.prog 92 #[.string (S r), .string ⟨#[42]⟩] wx fun e w' => ∃ X, e = .returned (.tuple #[.string X, .bool false]) ∧ w' = wx) := fun wx => by
          have := KP.out wx [42]
          rw [g2] at this
          exact this.mono fun e w' h => ⟨_, h.1, h.2⟩
        have K3 : Hid (∀ wx, Calls Tryz.prog 92 #[.string (S r), .string ⟨#[102, 110, 32]⟩] wx fun e w' => e = .returned (.tuple #[.string (S y), .bool true]) ∧ w' = wx) := fun wx => by
          have := KP.out wx [102, 110, 32]
          rw [g3, ← hy] at this
          exact this
        have KY : Hid (∀ wx, Calls Tryz.prog 100 #[.string (S y)] wx fun e w' => e = .returned (.bool (isNm y)) ∧ w' = wx) := fun wx => KI.out wx y
        have hr1 : rightD r = (⟨kFun, [], y, []⟩, isNm y) := by rw [hr0, g1, g2, g3, hy]; rfl
        obtain ⟨D, hD⟩ : ∃ D, D = isNm y := ⟨_, rfl⟩
        obtain ⟨byy, hby⟩ : ∃ D, D = S y := ⟨_, rfl⟩
        obtain ⟨br, hbr⟩ : ∃ D, D = S r := ⟨_, rfl⟩
        rw [← hD] at hr1
        rw [← hby, ← hD] at KY
        rw [← hby] at K3
        rw [← hbr] at K1
        rw [← hbr] at K2
        rw [← hbr] at K3
        rw [← hbr] at K0 hk ⊢
        have HX : Hid (rightD r = (⟨kFun, [], y, []⟩, D) ∧ byy = S y) := ⟨hr1, hby⟩
        clear hr0 hr1 hy hD hby hbr KP KI g1 g2 g3 h0 h1
        go_enter Tryz.func199, Tryz.ntmps199
        go_wp2_with fail
        refine (K0.out _).mono ?_
        rintro e w1 ⟨X, rfl, hw⟩
        obtain rfl := hw.symm
        clear hw K0
        go_wp2_with fail
        refine wp_loop_rounds 3 ?_
        rw [rounds_succ]
        go_wp2_with fail
        refine (K1.out _).mono ?_
        rintro e w1 ⟨X0, rfl, hw⟩
        obtain rfl := hw.symm
        clear hw K1
        go_wp2_with fail
        rw [rounds_succ]
        go_wp2_with fail
        refine (K2.out _).mono ?_
        rintro e w1 ⟨X1, rfl, hw⟩
        obtain rfl := hw.symm
        clear hw K2
        go_wp2_with fail
        rw [rounds_succ]
        go_wp2_with fail
        refine (K3.out _).mono ?_
        rintro e w1 ⟨rfl, hw⟩
        obtain rfl := hw.symm
        clear hw K3
        go_wp2_with fail
        go_region_with (go_at_call 100; refine (KY.out _).mono ?_; rintro e w' ⟨rfl, rfl⟩)
        all_goals (go_wp2_with fail)
        all_goals refine bodyPost_ret (v := .tuple #[.agg #[.string ⟨#[102, 117, 110]⟩, .string ⟨#[]⟩, .string byy, .slice none 0 0], .bool D]) (by simp [results, Tryz.results199, go_sem, Act.put]) rfl ?_
        all_goals rw [HX.out.1, HX.out.2]
        all_goals refine ⟨_, rfl, isStrs_nil _, newV_nil _, ?_⟩
        all_goals repeat (first
          | exact Below.refl _ _
          | refine Below.drew ?_
          | refine Below.alloc ?_ (by simp; try omega) _)
      | false =>
        obtain ⟨y, hy⟩ : ∃ y, y = r := ⟨_, rfl⟩
        have K1 : Hid (∀ wx, Calls Tryz.prog 92 #[.string (S r), .string ⟨#[38]⟩] wx fun e w' => ∃ X, e = .returned (.tuple #[.string X, .bool false]) ∧ w' = wx) := fun wx => by
          have := KP.out wx [38]
          rw [g1] at this
          exact this.mono fun e w' h => ⟨_, h.1, h.2⟩
        have K2 : Hid (∀ wx, Calls Tryz.prog 92 #[.string (S r), .string ⟨#[42]⟩] wx fun e w' => ∃ X, e = .returned (.tuple #[.string X, .bool false]) ∧ w' = wx) := fun wx => by
          have := KP.out wx [42]
          rw [g2] at this
          exact this.mono fun e w' h => ⟨_, h.1, h.2⟩
        have K3 : Hid (∀ wx, Calls Tryz.prog 92 #[.string (S r), .string ⟨#[102, 110, 32]⟩] wx fun e w' => ∃ X, e = .returned (.tuple #[.string X, .bool false]) ∧ w' = wx) := fun wx => by
          have := KP.out wx [102, 110, 32]
          rw [g3] at this
          exact this.mono fun e w' h => ⟨_, h.1, h.2⟩
        have KY : Hid (∀ wx, Calls Tryz.prog 100 #[.string (S y)] wx fun e w' => e = .returned (.bool (isNm y)) ∧ w' = wx) := fun wx => KI.out wx y
        have hr1 : rightD r = (⟨kCopy, [], y, []⟩, isNm y) := by rw [hr0, g1, g2, g3, hy]; rfl
        obtain ⟨D, hD⟩ : ∃ D, D = isNm y := ⟨_, rfl⟩
        obtain ⟨byy, hby⟩ : ∃ D, D = S y := ⟨_, rfl⟩
        obtain ⟨br, hbr⟩ : ∃ D, D = S r := ⟨_, rfl⟩
        rw [← hD] at hr1
        rw [← hby, ← hD] at KY
        rw [← hbr] at K1
        rw [← hbr] at K2
        rw [← hbr] at K3
        rw [← hbr] at K0 hk ⊢
        obtain rfl : br = byy := by rw [hbr, hby, hy]
        have HX : Hid (rightD r = (⟨kCopy, [], y, []⟩, D) ∧ br = S y) := ⟨hr1, by rw [hbr, hy]⟩
        clear hr0 hr1 hy hD hbr hby KP KI g1 g2 g3 h0 h1
        go_enter Tryz.func199, Tryz.ntmps199
        go_wp2_with fail
        refine (K0.out _).mono ?_
        rintro e w1 ⟨X, rfl, hw⟩
        obtain rfl := hw.symm
        clear hw K0
        go_wp2_with fail
        refine wp_loop_rounds 4 ?_
        rw [rounds_succ]
        go_wp2_with fail
        refine (K1.out _).mono ?_
        rintro e w1 ⟨X0, rfl, hw⟩
        obtain rfl := hw.symm
        clear hw K1
        go_wp2_with fail
        rw [rounds_succ]
        go_wp2_with fail
        refine (K2.out _).mono ?_
        rintro e w1 ⟨X1, rfl, hw⟩
        obtain rfl := hw.symm
        clear hw K2
        go_wp2_with fail
        rw [rounds_succ]
        go_wp2_with fail
        refine (K3.out _).mono ?_
        rintro e w1 ⟨X2, rfl, hw⟩
        obtain rfl := hw.symm
        clear hw K3
        go_wp2_with fail
        rw [rounds_succ]
        go_wp2_with fail
        refine (KY.out _).mono ?_
        rintro e w1 ⟨rfl, hw⟩
        obtain rfl := hw.symm
        clear hw KY
        go_wp2_with fail
        refine bodyPost_ret (v := .tuple #[.agg #[.string ⟨#[99, 111, 112, 121]⟩, .string ⟨#[]⟩, .string br, .slice none 0 0], .bool D]) (by simp [results, Tryz.results199, go_sem]) rfl ?_
        rw [HX.out.1, HX.out.2]
        refine ⟨_, rfl, isStrs_nil _, newV_nil _, ?_⟩
        repeat (first
          | exact Below.refl _ _
          | refine Below.drew ?_
          | refine Below.alloc ?_ (by simp; try omega) _)

theorem right_any (r : Bs) (w : World) (hs : r.length ≤ 100000) (hm : MaxL w) : Calls Tryz.prog 199 #[.string (S r)] w fun e w' => Sent w w' (rightD r) e := by
  by_cases h0 : r = kNew
  · exact right_new r w h0
  · cases h1 : Lib.hasPrefix r [99, 97, 108, 108, 32] with
    | true => exact right_call_any r w hs hm h0 h1
    | false => exact right_forms r w h0 h1
end Go.Proofs.YtakmmpbkojhmhaaGreatDoor

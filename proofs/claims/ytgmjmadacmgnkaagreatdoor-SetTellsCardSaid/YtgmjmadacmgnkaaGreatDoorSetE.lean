/-
  Package set: Union, holds, filter, Less, Both, by contracts.
-/
import Derived.Test.YtgmjmadacmgnkaaGreatDoorSetD
namespace Go.Proofs.YtgmjmadacmgnkaaGreatDoor
open Go.RowKit Go.Extern.Stop Go.Stop Go.Extern Go.Sort

theorem inB_append {ys zs : List Int} (h1 : InB ys) (h2 : InB zs) : InB (ys ++ zs) := by
  intro j hj
  rw [List.length_append] at hj
  by_cases h : j < ys.length
  · have := h1 j h
    simpa [List.getD, List.getElem?_append_left h] using this
  · have := h2 (j - ys.length) (by omega)
    simpa [List.getD, List.getElem?_append_right (Nat.le_of_not_lt h)] using this

set_option maxHeartbeats 1000000 in
theorem union_ok (ys zs : List Int) (u v : Value) (w : World) (hy : ys.length ≤ 100000) (hz : zs.length ≤ 100000) (h1 : IsInts w u ys) (h2 : IsInts w v zs) (s1 : IsSet ys) (s2 : IsSet zs) :
    Calls Tryz.prog 7 #[u, v] w fun e w' => ∃ v', e = .returned (.tuple #[v', .nilIface]) ∧ IsInts w' v' (norm (ys ++ zs)) ∧ Below w.heap.size w w' := by
  have H1 : Hid (IsInts w u ys) := h1
  have H2 : Hid (IsInts w v zs) := h2
  have HK : Hid (Calls Tryz.prog 21 #[u, v] w fun e w' => e = .returned .nilIface ∧ Below w.heap.size w w') := pair_ok ys zs u v w (by omega) (by omega) h1 h2 s1 s2
  obtain ⟨ua, uc, rfl⟩ := h1.form
  obtain ⟨va, vc, rfl⟩ := h2.form
  clear h1 h2
  go_enter Tryz.func7, Tryz.ntmps7
  go_wp2_with fail
  refine HK.out.mono ?_
  rintro e w1 ⟨rfl, hB1⟩
  go_wp2_with fail
  have hB1' := fun o => hB1.alloc hB1.size o
  refine (concat_two ys zs _ _ _ _ (by omega) (by omega) (H1.out.below (hB1' _)) (H2.out.below (hB1' _)) (by simp) (by simp)).mono ?_
  rintro e w2 ⟨v2, rfl, hI2, hB2⟩
  have hBw2 : Below w.heap.size w w2 := (hB1' _).trans (hB2.mono (by have := hB1.size; simp; omega))
  have HI : Hid (IsInts w2 v2 (ys ++ zs)) := hI2
  clear hI2 hB2 hB1'
  go_wp2_with fail
  refine (of_ok (ys ++ zs) v2 w2 (by simp; omega) HI.out (inB_append s1.1 s2.1)).mono ?_
  rintro e w3 ⟨v3, rfl, hI3, hB3⟩
  have HX : Hid (IsInts w3 v3 (norm (ys ++ zs)) ∧ Below w.heap.size w w3) := ⟨hI3, hBw2.trans (hB3.mono hBw2.size)⟩
  clear hI3 hB3
  go_wp2
  go_ret2
  exact ⟨v3, rfl, HX.out⟩

/-- holds: is a number one of numbers that do not fall? -/
theorem holds_any (zs : List Int) (v : Value) (x : Int) (w : World) (hm : zs.length ≤ 1000000) (h : IsInts w v zs) (hs : zs.Pairwise (· ≤ ·)) :
    Calls Tryz.prog 26 #[v, .int .i64 x] w fun e w' => e = .returned (.bool (zs.contains x)) ∧ Below w.heap.size w w' := by
  rcases h with ⟨hz, a, c, rfl⟩ | ⟨hz, b, o, c, rfl, hc⟩
  · subst hz
    go_enter Tryz.func26, Tryz.ntmps26
    go_wp2_with fail
    refine (Tryz.slices_BinarySearch_int_empty _ _ _ _).mono ?_
    rintro e w1 ⟨rfl, rfl⟩
    go_wp2
    go_ret
    exact ⟨rfl, Below.refl _ _⟩
  · have HC : Hid (∀ j, j < zs.length → w.cell? ⟨b, o + j, none⟩ = some (.int .i64 (zs.getD j 0))) := hc
    have HS : Hid (zs.Pairwise (· ≤ ·)) := hs
    clear hc hs hz
    go_enter Tryz.func26, Tryz.ntmps26
    go_wp2_with fail
    refine (Tryz.slices_BinarySearch_int b o zs.length c zs x w (Nat.le_refl _) (by omega) HC.out (by rw [List.take_length]; exact HS.out)).mono ?_
    rintro e w1 ⟨rfl, q, rfl⟩
    rw [List.take_length]
    obtain ⟨B, hBe⟩ : ∃ B, B = zs.contains x := ⟨_, rfl⟩
    rw [← hBe]
    have HBe : Hid (B = zs.contains x) := hBe
    clear hBe
    generalize List.countP (fun y => decide (y < x)) zs = C
    go_wp2
    go_ret
    exact ⟨by rw [← HBe.out]; rfl, below_drewN (Below.refl _ _) _⟩

theorem owns_below {w w' : World} {B : Nat} {e : TypeId} {k : Nat} {v : Value} {n : Nat} {xs : List Value} (h : w.ownsRow B e k v n xs) (hb : Below w.heap.size w w') : w'.ownsRow B e k v n xs := by
  refine ⟨h.1, ?_⟩
  rcases h.2 with h2 | ⟨g, cap, cur, hv, hg, hh, r⟩
  · exact Or.inl h2
  · have hl : g < w.heap.size := (Array.getElem?_eq_some_iff.1 hh).1
    exact Or.inr ⟨g, cap, cur, hv, hg, by rw [hb.block g hl]; exact hh, r⟩
theorem take_succ_getD (zs : List Int) (k : Nat) (h : k < zs.length) : zs.take (k + 1) = zs.take k ++ [zs.getD k 0] := by
  rw [List.take_succ_eq_append_getElem h]
  simp [List.getD, h]
theorem filter_yes (p : Int → Bool) (zs : List Int) (k : Nat) (h : k < zs.length) (hp : p (zs.getD k 0) = true) : (zs.take (k + 1)).filter p = (zs.take k).filter p ++ [zs.getD k 0] := by
  rw [take_succ_getD zs k h, List.filter_append, List.filter_cons_of_pos hp, List.filter_nil]
theorem filter_no (p : Int → Bool) (zs : List Int) (k : Nat) (h : k < zs.length) (hp : p (zs.getD k 0) = false) : (zs.take (k + 1)).filter p = (zs.take k).filter p := by
  rw [take_succ_getD zs k h, List.filter_append, List.filter_cons_of_neg (by rw [hp]; exact Bool.false_ne_true), List.filter_nil, List.append_nil]

/-- The closures that filter is handed: each asks holds of the set that it is bound to. -/
theorem less1_any (ys : List Int) (vb : Value) (pb : Nat) (x : Int) (w : World) (hm : ys.length ≤ 1000000) (hb : w.cell? ⟨pb, 0, none⟩ = some vb) (hv : IsInts w vb ys) (hs : ys.Pairwise (· ≤ ·)) :
    Calls Tryz.prog 25 #[.int .i64 x, .pointer (some ⟨pb, 0, none⟩)] w fun e w' => e = .returned (.bool (!ys.contains x)) ∧ Below w.heap.size w w' := by
  have HV : Hid (IsInts w vb ys) := hv
  obtain ⟨va, vc, rfl⟩ := hv.form
  clear hv
  go_enter Tryz.func25, Tryz.ntmps25
  go_wp2_with fail
  refine (holds_any ys _ x _ hm HV.out hs).mono ?_
  rintro e w1 ⟨rfl, hB⟩
  obtain ⟨B, hBe⟩ : ∃ B, B = ys.contains x := ⟨_, rfl⟩
  rw [← hBe]
  have HBe : Hid (B = ys.contains x) := hBe
  clear hBe
  go_wp2
  go_ret
  exact ⟨by rw [← HBe.out]; rfl, hB⟩
theorem both1_any (ys : List Int) (vb : Value) (pb : Nat) (x : Int) (w : World) (hm : ys.length ≤ 1000000) (hb : w.cell? ⟨pb, 0, none⟩ = some vb) (hv : IsInts w vb ys) (hs : ys.Pairwise (· ≤ ·)) :
    Calls Tryz.prog 27 #[.int .i64 x, .pointer (some ⟨pb, 0, none⟩)] w fun e w' => e = .returned (.bool (ys.contains x)) ∧ Below w.heap.size w w' := by
  have HV : Hid (IsInts w vb ys) := hv
  obtain ⟨va, vc, rfl⟩ := hv.form
  clear hv
  go_enter Tryz.func27, Tryz.ntmps27
  go_wp2_with fail
  refine (holds_any ys _ x _ hm HV.out hs).mono ?_
  rintro e w1 ⟨rfl, hB⟩
  obtain ⟨B, hBe⟩ : ∃ B, B = ys.contains x := ⟨_, rfl⟩
  rw [← hBe]
  have HBe : Hid (B = ys.contains x) := hBe
  clear hBe
  go_wp2
  go_ret
  exact ⟨by rw [← HBe.out]; rfl, hB⟩

set_option maxHeartbeats 1000000 in
/-- filter, at the closure of Less. -/
theorem filter_less (p : Int → Bool) (zs : List Int) (v : Value) (pb : Nat) (w : World) (hm : zs.length ≤ 1000000) (h : IsInts w v zs)
    (hcl : ∀ wr x, Below w.heap.size w wr → Calls Tryz.prog 25 #[.int .i64 x, .pointer (some ⟨pb, 0, none⟩)] wr fun e w' => e = .returned (.bool (p x)) ∧ Below wr.heap.size wr w') :
    Calls Tryz.prog 24 #[v, .func (Fn.func 25) #[] #[.pointer (some ⟨pb, 0, none⟩)]] w fun e w' => ∃ v', e = .returned v' ∧ IsInts w' v' (zs.filter p) ∧ Below w.heap.size w w' := by
  have HCL : Hid (∀ wr x, Below w.heap.size w wr → Calls Tryz.prog 25 #[.int .i64 x, .pointer (some ⟨pb, 0, none⟩)] wr fun e w' => e = .returned (.bool (p x)) ∧ Below wr.heap.size wr w') := hcl
  clear hcl
  rcases h with ⟨hz, a, c, rfl⟩ | ⟨hz, b, o, c, rfl, hc⟩
  · subst hz
    go_enter Tryz.func24, Tryz.ntmps24
    go_wp2_with fail
    go_loopw [5, 10] (fun u t wr => u = .slice none 0 0 ∧ t = .int .i64 0 ∧ wr = w) (fun _ _ _ => 0)
    case atStart => exact ⟨rfl, rfl, rfl⟩
    case round =>
      obtain ⟨rfl, rfl, rfl⟩ := hrel
      go_wp2_with fail
      go_ret
      exact ⟨.slice none 0 0, rfl, IsInts.nil _ _ _, Below.refl _ _⟩
  · have HC : Hid (∀ j, j < zs.length → w.cell? ⟨b, o + j, none⟩ = some (.int .i64 (zs.getD j 0))) := hc
    clear hc hz
    generalize hn : zs.length = n at *
    have HN : Hid (zs.length = n) := hn
    clear hn
    go_enter Tryz.func24, Tryz.ntmps24
    go_wp2_with fail
    go_loopw [5, 10] (fun u t wr => ∃ k : Nat, k ≤ n ∧ t = .int .i64 k ∧ wr.ownsRow w.heap.size 3 1 u ((zs.take k).filter p).length (((zs.take k).filter p).map (Value.int .i64)) ∧ Below w.heap.size w wr) (fun _ t _ => (n - intOf t).toNat)
    case atStart => exact ⟨0, Nat.zero_le _, rfl, World.ownsRow_nil _ _ _ _, Below.refl _ _⟩
    case round =>
      obtain ⟨k, hk, rfl, ho, hB⟩ := hrel
      have HO : Hid (wr.ownsRow w.heap.size 3 1 u5 ((zs.take k).filter p).length (((zs.take k).filter p).map (Value.int .i64))) := ho
      have hlen : ((zs.take k).filter p).length ≤ k := Nat.le_trans (List.length_filter_le _ _) (List.length_take_le _ _)
      clear ho
      by_cases hlt : k < n
      · have e1 := cell_keep hB (HC.out k hlt)
        obtain ⟨z, hze⟩ : ∃ z, z = zs.getD k 0 := ⟨_, rfl⟩
        rw [← hze] at e1
        have HZ : Hid (z = zs.getD k 0) := hze
        clear hze
        go_wp2_with fail
        refine (HCL.out wr z hB).mono ?_
        rintro e w1 ⟨rfl, hB1⟩
        have hBw : Below w.heap.size w w1 := hB.trans (hB1.mono hB.size)
        cases hpz : p z with
        | true =>
          have HP : Hid (p z = true) := hpz
          clear hpz
          have ho2 : (w1.alloc (.cells #[.int .i64 z] 3)).ownsRow w.heap.size 3 1 u5 ((zs.take k).filter p).length (((zs.take k).filter p).map (Value.int .i64)) := (owns_below HO.out hB1).alloc _
          have hsz : w.heap.size ≤ (w1.alloc (.cells #[.int .i64 z] 3)).heap.size := by have := hBw.size; simp; omega
          obtain ⟨v', w2, hr, ho3, hg⟩ := run_append_ints (w1.alloc (.cells #[.int .i64 z] 3)) w.heap.size u5 _ _ ho2 (.slice (some ⟨w1.heap.size, 0, none⟩) 1 1) [z] (isInts_of_cells rfl (fun j hj => by
            obtain rfl : j = 0 := by simpa using hj
            simp)) (by simp; omega) hsz 22
          have hB2 : Below w.heap.size w w2 := (hBw.alloc hBw.size _).trans (below_of_grown hg hsz ho2 (Nat.le_refl _))
          have HX : Hid (w2.ownsRow w.heap.size 3 1 v' ((zs.take (k + 1)).filter p).length (((zs.take (k + 1)).filter p).map (Value.int .i64)) ∧ Below w.heap.size w w2) := by
            refine ⟨?_, hB2⟩
            have hk1 : k < zs.length := by rw [HN.out]; exact hlt
            rw [filter_yes p zs k hk1 (by rw [← HZ.out]; exact HP.out), ← HZ.out]
            simpa using ho3
          clear ho2 ho3 hg hB2
          go_wp2_with (at_builtin; refine Lib.wpList_append_run _ rfl _ _ _ _ rfl _ _ rfl rfl _ _ hr ?_)
          go_roundw
          case rel => exact ⟨k + 1, hlt, by go_num, HX.out.1, HX.out.2⟩
          case measure => simp [intOf]; omega
        | false =>
          have HX : Hid (w1.ownsRow w.heap.size 3 1 u5 ((zs.take (k + 1)).filter p).length (((zs.take (k + 1)).filter p).map (Value.int .i64)) ∧ Below w.heap.size w w1) := by
            refine ⟨?_, hBw⟩
            rw [filter_no p zs k (by rw [HN.out]; exact hlt) (by rw [← HZ.out]; exact hpz)]
            exact owns_below HO.out hB1
          clear hpz
          go_wp2_with fail
          go_roundw
          case rel => exact ⟨k + 1, hlt, by go_num, HX.out.1, HX.out.2⟩
          case measure => simp [intOf]; omega
      · go_wp2_with fail
        go_ret
        refine ⟨u5, rfl, ?_, hB⟩
        have hkn : k = zs.length := by rw [HN.out]; omega
        have := isInts_of_owns HO.out
        rw [hkn, List.take_length] at this
        exact this

set_option maxHeartbeats 1000000 in
/-- filter, at the closure of Both. -/
theorem filter_both (p : Int → Bool) (zs : List Int) (v : Value) (pb : Nat) (w : World) (hm : zs.length ≤ 1000000) (h : IsInts w v zs)
    (hcl : ∀ wr x, Below w.heap.size w wr → Calls Tryz.prog 27 #[.int .i64 x, .pointer (some ⟨pb, 0, none⟩)] wr fun e w' => e = .returned (.bool (p x)) ∧ Below wr.heap.size wr w') :
    Calls Tryz.prog 24 #[v, .func (Fn.func 27) #[] #[.pointer (some ⟨pb, 0, none⟩)]] w fun e w' => ∃ v', e = .returned v' ∧ IsInts w' v' (zs.filter p) ∧ Below w.heap.size w w' := by
  have HCL : Hid (∀ wr x, Below w.heap.size w wr → Calls Tryz.prog 27 #[.int .i64 x, .pointer (some ⟨pb, 0, none⟩)] wr fun e w' => e = .returned (.bool (p x)) ∧ Below wr.heap.size wr w') := hcl
  clear hcl
  rcases h with ⟨hz, a, c, rfl⟩ | ⟨hz, b, o, c, rfl, hc⟩
  · subst hz
    go_enter Tryz.func24, Tryz.ntmps24
    go_wp2_with fail
    go_loopw [5, 10] (fun u t wr => u = .slice none 0 0 ∧ t = .int .i64 0 ∧ wr = w) (fun _ _ _ => 0)
    case atStart => exact ⟨rfl, rfl, rfl⟩
    case round =>
      obtain ⟨rfl, rfl, rfl⟩ := hrel
      go_wp2_with fail
      go_ret
      exact ⟨.slice none 0 0, rfl, IsInts.nil _ _ _, Below.refl _ _⟩
  · have HC : Hid (∀ j, j < zs.length → w.cell? ⟨b, o + j, none⟩ = some (.int .i64 (zs.getD j 0))) := hc
    clear hc hz
    generalize hn : zs.length = n at *
    have HN : Hid (zs.length = n) := hn
    clear hn
    go_enter Tryz.func24, Tryz.ntmps24
    go_wp2_with fail
    go_loopw [5, 10] (fun u t wr => ∃ k : Nat, k ≤ n ∧ t = .int .i64 k ∧ wr.ownsRow w.heap.size 3 1 u ((zs.take k).filter p).length (((zs.take k).filter p).map (Value.int .i64)) ∧ Below w.heap.size w wr) (fun _ t _ => (n - intOf t).toNat)
    case atStart => exact ⟨0, Nat.zero_le _, rfl, World.ownsRow_nil _ _ _ _, Below.refl _ _⟩
    case round =>
      obtain ⟨k, hk, rfl, ho, hB⟩ := hrel
      have HO : Hid (wr.ownsRow w.heap.size 3 1 u5 ((zs.take k).filter p).length (((zs.take k).filter p).map (Value.int .i64))) := ho
      have hlen : ((zs.take k).filter p).length ≤ k := Nat.le_trans (List.length_filter_le _ _) (List.length_take_le _ _)
      clear ho
      by_cases hlt : k < n
      · have e1 := cell_keep hB (HC.out k hlt)
        obtain ⟨z, hze⟩ : ∃ z, z = zs.getD k 0 := ⟨_, rfl⟩
        rw [← hze] at e1
        have HZ : Hid (z = zs.getD k 0) := hze
        clear hze
        go_wp2_with fail
        refine (HCL.out wr z hB).mono ?_
        rintro e w1 ⟨rfl, hB1⟩
        have hBw : Below w.heap.size w w1 := hB.trans (hB1.mono hB.size)
        cases hpz : p z with
        | true =>
          have HP : Hid (p z = true) := hpz
          clear hpz
          have ho2 : (w1.alloc (.cells #[.int .i64 z] 3)).ownsRow w.heap.size 3 1 u5 ((zs.take k).filter p).length (((zs.take k).filter p).map (Value.int .i64)) := (owns_below HO.out hB1).alloc _
          have hsz : w.heap.size ≤ (w1.alloc (.cells #[.int .i64 z] 3)).heap.size := by have := hBw.size; simp; omega
          obtain ⟨v', w2, hr, ho3, hg⟩ := run_append_ints (w1.alloc (.cells #[.int .i64 z] 3)) w.heap.size u5 _ _ ho2 (.slice (some ⟨w1.heap.size, 0, none⟩) 1 1) [z] (isInts_of_cells rfl (fun j hj => by
            obtain rfl : j = 0 := by simpa using hj
            simp)) (by simp; omega) hsz 22
          have hB2 : Below w.heap.size w w2 := (hBw.alloc hBw.size _).trans (below_of_grown hg hsz ho2 (Nat.le_refl _))
          have HX : Hid (w2.ownsRow w.heap.size 3 1 v' ((zs.take (k + 1)).filter p).length (((zs.take (k + 1)).filter p).map (Value.int .i64)) ∧ Below w.heap.size w w2) := by
            refine ⟨?_, hB2⟩
            have hk1 : k < zs.length := by rw [HN.out]; exact hlt
            rw [filter_yes p zs k hk1 (by rw [← HZ.out]; exact HP.out), ← HZ.out]
            simpa using ho3
          clear ho2 ho3 hg hB2
          go_wp2_with (at_builtin; refine Lib.wpList_append_run _ rfl _ _ _ _ rfl _ _ rfl rfl _ _ hr ?_)
          go_roundw
          case rel => exact ⟨k + 1, hlt, by go_num, HX.out.1, HX.out.2⟩
          case measure => simp [intOf]; omega
        | false =>
          have HX : Hid (w1.ownsRow w.heap.size 3 1 u5 ((zs.take (k + 1)).filter p).length (((zs.take (k + 1)).filter p).map (Value.int .i64)) ∧ Below w.heap.size w w1) := by
            refine ⟨?_, hBw⟩
            rw [filter_no p zs k (by rw [HN.out]; exact hlt) (by rw [← HZ.out]; exact hpz)]
            exact owns_below HO.out hB1
          clear hpz
          go_wp2_with fail
          go_roundw
          case rel => exact ⟨k + 1, hlt, by go_num, HX.out.1, HX.out.2⟩
          case measure => simp [intOf]; omega
      · go_wp2_with fail
        go_ret
        refine ⟨u5, rfl, ?_, hB⟩
        have hkn : k = zs.length := by rw [HN.out]; omega
        have := isInts_of_owns HO.out
        rw [hkn, List.take_length] at this
        exact this

set_option maxHeartbeats 1000000 in
theorem less_ok (ys zs : List Int) (u v : Value) (w : World) (hy : ys.length ≤ 100000) (hz : zs.length ≤ 100000) (h1 : IsInts w u ys) (h2 : IsInts w v zs) (s1 : IsSet ys) (s2 : IsSet zs) (hs : zs.Pairwise (· ≤ ·)) :
    Calls Tryz.prog 8 #[u, v] w fun e w' => ∃ v', e = .returned (.tuple #[v', .nilIface]) ∧ IsInts w' v' (ys.filter fun y => !zs.contains y) ∧ Below w.heap.size w w' := by
  obtain ⟨ua, uc, rfl⟩ := h1.form
  obtain ⟨va, vc, rfl⟩ := h2.form
  have hB0 := fun o => (Below.refl w.heap.size w).alloc (Nat.le_refl _) o
  have HP : Hid (∀ o, IsInts (w.alloc o) (.slice ua ys.length uc) ys ∧ IsInts (w.alloc o) (.slice va zs.length vc) zs) := fun o => ⟨h1.below (hB0 o), h2.below (hB0 o)⟩
  clear h1 h2
  go_enter Tryz.func8, Tryz.ntmps8
  go_wp2_with fail
  refine (pair_ok ys zs _ _ _ (by omega) (by omega) (HP.out _).1 (HP.out _).2 s1 s2).mono ?_
  rintro e w1 ⟨rfl, hB1⟩
  have hc1 : w1.cell? ⟨w.heap.size, 0, none⟩ = some (.slice va zs.length vc) := cell_keep hB1 (by simp)
  have hBw : Below w.heap.size w w1 := (hB0 _).trans (hB1.mono (by simp))
  have HI : Hid (IsInts w1 (.slice ua ys.length uc) ys ∧ IsInts w1 (.slice va zs.length vc) zs) := ⟨(HP.out _).1.below hB1, (HP.out _).2.below hB1⟩
  clear hB0 hB1
  go_wp2_with fail
  refine (filter_less (fun y => !zs.contains y) ys _ w.heap.size w1 (by omega) HI.out.1 (fun wr x hb => less1_any zs _ w.heap.size x wr (by omega) (cell_keep hb hc1) (HI.out.2.below hb) hs)).mono ?_
  rintro e w2 ⟨v2, rfl, hI2, hB2⟩
  have HX : Hid (IsInts w2 v2 (ys.filter fun y => !zs.contains y) ∧ Below w.heap.size w w2) := ⟨hI2, hBw.trans (hB2.mono hBw.size)⟩
  clear hI2 hB2 hc1
  go_wp2
  go_ret2
  exact ⟨v2, rfl, HX.out⟩

set_option maxHeartbeats 1000000 in
theorem both_ok (ys zs : List Int) (u v : Value) (w : World) (hy : ys.length ≤ 100000) (hz : zs.length ≤ 100000) (h1 : IsInts w u ys) (h2 : IsInts w v zs) (s1 : IsSet ys) (s2 : IsSet zs) (hs : zs.Pairwise (· ≤ ·)) :
    Calls Tryz.prog 9 #[u, v] w fun e w' => ∃ v', e = .returned (.tuple #[v', .nilIface]) ∧ IsInts w' v' (ys.filter fun y => zs.contains y) ∧ Below w.heap.size w w' := by
  obtain ⟨ua, uc, rfl⟩ := h1.form
  obtain ⟨va, vc, rfl⟩ := h2.form
  have hB0 := fun o => (Below.refl w.heap.size w).alloc (Nat.le_refl _) o
  have HP : Hid (∀ o, IsInts (w.alloc o) (.slice ua ys.length uc) ys ∧ IsInts (w.alloc o) (.slice va zs.length vc) zs) := fun o => ⟨h1.below (hB0 o), h2.below (hB0 o)⟩
  clear h1 h2
  go_enter Tryz.func9, Tryz.ntmps9
  go_wp2_with fail
  refine (pair_ok ys zs _ _ _ (by omega) (by omega) (HP.out _).1 (HP.out _).2 s1 s2).mono ?_
  rintro e w1 ⟨rfl, hB1⟩
  have hc1 : w1.cell? ⟨w.heap.size, 0, none⟩ = some (.slice va zs.length vc) := cell_keep hB1 (by simp)
  have hBw : Below w.heap.size w w1 := (hB0 _).trans (hB1.mono (by simp))
  have HI : Hid (IsInts w1 (.slice ua ys.length uc) ys ∧ IsInts w1 (.slice va zs.length vc) zs) := ⟨(HP.out _).1.below hB1, (HP.out _).2.below hB1⟩
  clear hB0 hB1
  go_wp2_with fail
  refine (filter_both (fun y => zs.contains y) ys _ w.heap.size w1 (by omega) HI.out.1 (fun wr x hb => both1_any zs _ w.heap.size x wr (by omega) (cell_keep hb hc1) (HI.out.2.below hb) hs)).mono ?_
  rintro e w2 ⟨v2, rfl, hI2, hB2⟩
  have HX : Hid (IsInts w2 v2 (ys.filter fun y => zs.contains y) ∧ Below w.heap.size w w2) := ⟨hI2, hBw.trans (hB2.mono hBw.size)⟩
  clear hI2 hB2 hc1
  go_wp2
  go_ret2
  exact ⟨v2, rfl, HX.out⟩

end Go.Proofs.YtgmjmadacmgnkaaGreatDoor

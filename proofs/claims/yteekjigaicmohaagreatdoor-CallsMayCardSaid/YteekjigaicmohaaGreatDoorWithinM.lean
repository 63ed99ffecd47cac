/-
  Package set: Within and Has, by contracts.
-/
import Derived.Test.YteekjigaicmohaaGreatDoorXSM
import Derived.Test.YteekjigaicmohaaGreatDoorXMM
namespace Go.Proofs.YteekjigaicmohaaGreatDoor
open Go.RowKit Go.Extern.Stop Go.Stop Go.Extern Go.Sort

theorem has_any (zs : List Int) (v : Value) (x : Int) (w : World) (hm : zs.length ≤ 1000000) (h : IsInts w v zs) :
    Calls Tryz.prog 39 #[v, .int .i64 x] w fun e w' => e = .returned (.bool (zs.contains x)) ∧ w' = w := by
  have HK : Hid (Calls Tryz.prog 82 #[v, .int .i64 x] w fun e w' => e = .returned (.bool (zs.contains x)) ∧ w' = w) := by
    rcases h with ⟨hz, a, c, rfl⟩ | ⟨hz, b, o, c, rfl, hc⟩
    · subst hz
      exact Tryz.slices_Contains_int_empty a c x w
    · have := Tryz.slices_Contains_int b o zs.length c zs x w (Nat.le_refl _) (by omega) hc
      rw [List.take_length] at this
      exact this
  clear h
  obtain ⟨B, hB⟩ : ∃ B, B = zs.contains x := ⟨_, rfl⟩
  rw [← hB] at HK ⊢
  clear hB
  go_enter Tryz.func39, Tryz.ntmps39
  go_wp2_with fail
  refine HK.out.mono ?_
  rintro e w1 ⟨rfl, hw⟩
  obtain rfl := hw.symm
  go_wp2
  go_ret
  exact ⟨rfl, rfl⟩

set_option maxHeartbeats 1000000 in
theorem within1_any (ys : List Int) (vb : Value) (pb : Nat) (x : Int) (w : World) (hm : ys.length ≤ 1000000) (hb : w.cell? ⟨pb, 0, none⟩ = some vb) (hv : IsInts w vb ys) (hs : ys.Pairwise (· ≤ ·)) :
    Calls Tryz.prog 68 #[.int .i64 x, .pointer (some ⟨pb, 0, none⟩)] w fun e w' => e = .returned (.bool (!ys.contains x)) ∧ Below w.heap.size w w' := by
  have HV : Hid (IsInts w vb ys) := hv
  obtain ⟨va, vc, rfl⟩ := hv.form
  clear hv
  go_enter Tryz.func68, Tryz.ntmps68
  go_wp2_with fail
  refine (holds_any ys _ x _ hm HV.out hs).mono ?_
  rintro e w1 ⟨rfl, hB⟩
  obtain ⟨B, hBe⟩ : ∃ B, B = ys.contains x := ⟨_, rfl⟩
  rw [← hBe]
  have HBe : Hid (B = ys.contains x) := hBe
  clear hBe
  go_wp2
  go_ret
  exact ⟨by rw [← HBe.out]; rfl, hB⟩

theorem any_take_succ (p : Int → Bool) (zs : List Int) (k : Nat) (h : k < zs.length) (h1 : (zs.take k).any p = false) (h2 : p (zs.getD k 0) = false) : (zs.take (k + 1)).any p = false := by
  rw [take_succ_getD zs k h, List.any_append, h1]
  simpa using h2
theorem any_at (p : Int → Bool) (zs : List Int) (k : Nat) (h : k < zs.length) (h2 : p (zs.getD k 0) = true) : zs.any p = true :=
  List.any_eq_true.2 ⟨zs[k], List.getElem_mem h, by simpa [List.getD, h] using h2⟩

set_option maxHeartbeats 1000000 in
theorem indexFunc_any (p : Int → Bool) (zs : List Int) (v : Value) (pb : Nat) (w : World) (hm : zs.length ≤ 1000000) (h : IsInts w v zs)
    (hcl : ∀ wr x, Below w.heap.size w wr → Calls Tryz.prog 68 #[.int .i64 x, .pointer (some ⟨pb, 0, none⟩)] wr fun e w' => e = .returned (.bool (p x)) ∧ Below wr.heap.size wr w') :
    Calls Tryz.prog 115 #[v, .func (Fn.func 68) #[] #[.pointer (some ⟨pb, 0, none⟩)]] w fun e w' => ∃ r : Int, e = .returned (.int .i64 r) ∧ ((0 ≤ r ∧ zs.any p = true) ∨ (r = -1 ∧ zs.any p = false)) ∧ Below w.heap.size w w' := by
  have HCL : Hid (∀ wr x, Below w.heap.size w wr → Calls Tryz.prog 68 #[.int .i64 x, .pointer (some ⟨pb, 0, none⟩)] wr fun e w' => e = .returned (.bool (p x)) ∧ Below wr.heap.size wr w') := hcl
  clear hcl
  rcases h with ⟨hz, a, c, rfl⟩ | ⟨hz, b, o, c, rfl, hc⟩
  · subst hz
    go_enter Tryz.func115, Tryz.ntmps115
    go_wp2_with fail
    go_loopw [8] (fun t wr => t = .int .i64 0 ∧ wr = w) (fun _ _ => 0)
    case atStart => exact ⟨rfl, rfl⟩
    case round =>
      obtain ⟨rfl, rfl⟩ := hrel
      go_wp2_with fail
      go_ret
      exact ⟨-1, rfl, Or.inr ⟨rfl, rfl⟩, Below.refl _ _⟩
  · have HC : Hid (∀ j, j < zs.length → w.cell? ⟨b, o + j, none⟩ = some (.int .i64 (zs.getD j 0))) := hc
    clear hc hz
    generalize hn : zs.length = n at *
    have HN : Hid (zs.length = n) := hn
    clear hn
    go_enter Tryz.func115, Tryz.ntmps115
    go_wp2_with fail
    go_loopw [8] (fun t wr => ∃ k : Nat, k ≤ n ∧ t = .int .i64 k ∧ (zs.take k).any p = false ∧ Below w.heap.size w wr) (fun t _ => (n - intOf t).toNat)
    case atStart => exact ⟨0, Nat.zero_le _, rfl, rfl, Below.refl _ _⟩
    case round =>
      obtain ⟨k, hk, rfl, hall, hB⟩ := hrel
      have HA : Hid ((zs.take k).any p = false) := hall
      clear hall
      by_cases hlt : k < n
      · have e1 := cell_keep hB (HC.out k hlt)
        obtain ⟨z, hze⟩ : ∃ z, z = zs.getD k 0 := ⟨_, rfl⟩
        rw [← hze] at e1
        have HZ : Hid (z = zs.getD k 0) := hze
        clear hze
        go_wp2_with fail
        refine (HCL.out wr z hB).mono ?_
        rintro e w1 ⟨rfl, hB1⟩
        have hBw : Below w.heap.size w w1 := hB.trans (hB1.mono hB.size)
        clear hB1
        cases hpz : p z with
        | true =>
          have HP : Hid (zs.any p = true) := any_at p zs k (by rw [HN.out]; exact hlt) (by rw [← HZ.out]; exact hpz)
          clear hpz
          go_wp2_with fail
          go_ret
          exact ⟨k, rfl, Or.inl ⟨by omega, HP.out⟩, hBw⟩
        | false =>
          have HP : Hid ((zs.take (k + 1)).any p = false) := any_take_succ p zs k (by rw [HN.out]; exact hlt) HA.out (by rw [← HZ.out]; exact hpz)
          clear hpz
          go_wp2_with fail
          go_roundw
          case rel => exact ⟨k + 1, hlt, by go_num, HP.out, hBw⟩
          case measure => simp [intOf]; omega
      · go_wp2_with fail
        go_ret
        refine ⟨-1, rfl, Or.inr ⟨rfl, ?_⟩, hB⟩
        have hkn : k = zs.length := by rw [HN.out]; omega
        have := HA.out
        rw [hkn, List.take_length] at this
        exact this

theorem containsFunc_any (p : Int → Bool) (zs : List Int) (v : Value) (pb : Nat) (w : World) (hm : zs.length ≤ 1000000) (h : IsInts w v zs)
    (hcl : ∀ wr x, Below w.heap.size w wr → Calls Tryz.prog 68 #[.int .i64 x, .pointer (some ⟨pb, 0, none⟩)] wr fun e w' => e = .returned (.bool (p x)) ∧ Below wr.heap.size wr w') :
    Calls Tryz.prog 67 #[v, .func (Fn.func 68) #[] #[.pointer (some ⟨pb, 0, none⟩)]] w fun e w' => e = .returned (.bool (zs.any p)) ∧ Below w.heap.size w w' := by
  have HK := indexFunc_any p zs v pb w hm h hcl
  have HK' : Hid (Calls Tryz.prog 115 #[v, .func (Fn.func 68) #[] #[.pointer (some ⟨pb, 0, none⟩)]] w fun e w' => ∃ r : Int, e = .returned (.int .i64 r) ∧ ((0 ≤ r ∧ zs.any p = true) ∨ (r = -1 ∧ zs.any p = false)) ∧ Below w.heap.size w w') := HK
  clear HK hcl h hm
  obtain ⟨B, hBe⟩ : ∃ B, B = zs.any p := ⟨_, rfl⟩
  rw [← hBe] at HK' ⊢
  clear hBe
  go_enter Tryz.func67, Tryz.ntmps67
  go_wp2_with fail
  refine HK'.out.mono ?_
  rintro e w1 ⟨r, rfl, hr, hB⟩
  rcases hr with ⟨h1, rfl⟩ | ⟨rfl, rfl⟩
  · go_wp2
    go_ret
    exact ⟨rfl, hB⟩
  · go_wp2
    go_ret
    exact ⟨rfl, hB⟩

set_option maxHeartbeats 1000000 in
theorem within_any (xs ys : List Int) (u v : Value) (w : World) (hx : xs.length ≤ 100000) (hy : ys.length ≤ 100000) (h1 : IsInts w u xs) (h2 : IsInts w v ys) :
    Calls Tryz.prog 27 #[u, v] w fun e w' => e = .returned (.bool (xs.all fun x => ys.contains x)) ∧ Below w.heap.size w w' := by
  have H1 : Hid (IsInts w u xs) := h1
  have HS : Hid (Calls Tryz.prog 66 #[v] w fun e w' => Sorted w w' e ys) := sorted_any ys v w (by omega) h2
  have hall : (xs.all fun x => ys.contains x) = !(xs.any fun x => !(srt ys).contains x) := by
    rw [List.not_any_eq_all_not]
    refine congrFun (congrArg List.all rfl) _ |>.trans ?_
    apply List.all_congr rfl
    intro x
    rw [Bool.not_not, Bool.eq_iff_iff, List.contains_iff_mem, List.contains_iff_mem]
    exact ((srt_perm ys).mem_iff).symm
  rw [hall]
  clear hall h1 h2
  go_enter Tryz.func27, Tryz.ntmps27
  go_wp2_with fail
  refine HS.out.mono ?_
  rintro e w1 hs
  have hsorted : ∃ a n c, e = .returned (.slice a n c) ∧ IsInts w1 (.slice a n c) (srt ys) ∧ Below w.heap.size w w1 := by
    rcases hs with ⟨hz, b, c, rfl, hB⟩ | ⟨hz, g, cap, rfl, hg1, hg2, hcap, hH, hB⟩
    · refine ⟨b, 0, c, rfl, ?_, hB⟩
      rw [hz]
      have : srt [] = [] := List.eq_nil_of_length_eq_zero (by rw [srt_length]; rfl)
      rw [this]; exact IsInts.nil _ _ _
    · exact ⟨_, _, cap, rfl, isInts_of_holds (by rw [srt_length]) hH, hB⟩
  obtain ⟨a, n, c, rfl, hI, hB⟩ := hsorted
  have HI : Hid (IsInts w1 (.slice a n c) (srt ys)) := hI
  clear hs hI
  go_wp2_with fail
  have hB1 := fun o => (Below.refl w1.heap.size w1).alloc (Nat.le_refl _) o
  have hBw := fun o => hB.trans ((hB1 o).mono hB.size)
  refine (containsFunc_any (fun x => !(srt ys).contains x) xs u w1.heap.size _ (by omega) (H1.out.below (hBw _)) (fun wr x hb => within1_any (srt ys) _ w1.heap.size x wr (by rw [srt_length]; omega) (cell_keep hb (by simp)) ((HI.out.below (hB1 _)).below hb) (srt_sorted ys))).mono ?_
  rintro e w2 ⟨rfl, hB2⟩
  have hBw2 : Below w.heap.size w w2 := (hBw _).trans (hB2.mono (by have := hB.size; simp; omega))
  obtain ⟨B, hBe⟩ : ∃ B, B = (xs.any fun x => !(srt ys).contains x) := ⟨_, rfl⟩
  rw [← hBe]
  have HBe : Hid (B = (xs.any fun x => !(srt ys).contains x)) := hBe
  clear hBe hBw hB1 hB2
  go_wp2
  go_ret
  exact ⟨by rw [← HBe.out]; rfl, hBw2⟩
end Go.Proofs.YteekjigaicmohaaGreatDoor

/-
  Lists of numbers put behind one another: append, OwnInts, slices.Grow of nothing, slices.Concat of two.
-/
import Derived.Test.YtimmkenmahagjaaGreatDoorSetC
import Derived.OwnWalk
import Derived.Lib.AppendZerosOnto
import Derived.Lib.AppendZeros
namespace Go.Proofs.YtimmkenmahagjaaGreatDoor
open Go.RowKit Go.Extern.Stop Go.Stop Go.Extern Go.Sort

theorem Tryz.infoIntS : (Tryz.prog.info? 3).map (fun i => (i.zero, i.size, i.bytes)) = some (some (.int .i64 0), 1, 8) := by kernel_rfl

theorem heap_newS (w : World) (o : Obj) : (w.alloc o).heap[w.heap.size]? = some o := by
  show (w.heap.push o)[w.heap.size]? = some o
  simp

theorem IsInts.form {w : World} {v : Value} {zs : List Int} (h : IsInts w v zs) : ∃ a c, v = .slice a zs.length c := by
  rcases h with ⟨hz, a, c, rfl⟩ | ⟨hz, b, o, c, rfl, hc⟩
  · subst hz; exact ⟨a, c, rfl⟩
  · exact ⟨_, c, rfl⟩

theorem isInts_of_owns {w : World} {base n : Nat} {v : Value} {zs : List Int} (h : w.ownsRow base 3 1 v n (zs.map (Value.int .i64))) : IsInts w v zs := by
  have hn : n = zs.length := by have := h.1; simp at this; omega
  rcases h.2 with ⟨rfl, h0⟩ | ⟨g, cap, cur, rfl, _⟩
  · have : zs = [] := List.eq_nil_of_length_eq_zero (by omega)
    subst this
    exact IsInts.nil _ _ _
  · refine isInts_of_cells hn fun j hj => ?_
    have := h.cells (g := g) rfl j (.int .i64 (zs.getD j 0)) (by simp [List.getD, hj])
    rw [Addr.add_lit] at this
    exact this

theorem run_append_ints (w : World) (base : Nat) (v : Value) (n : Nat) (xs : List Value) (hown : w.ownsRow base 3 1 v n xs) (x : Value) (zs : List Int) (hx : IsInts w x zs)
    (hbd : n + zs.length ≤ 10000000) (hbase : base ≤ w.heap.size) (ty : TypeId) :
    ∃ v' w', (Builtin.append_ #[42, 42] ty #[v, x]).run Tryz.prog w = .ok v' w' ∧ w'.ownsRow base 3 1 v' (n + zs.length) (xs ++ zs.map (Value.int .i64)) ∧ w.grownBy w' v.ownBlock := by
  obtain ⟨i0, hi, hz0, hz1, hz2⟩ := info_parts Tryz.infoIntS
  have some_case : ∀ (ad : Addr) (c : Nat), x = .slice (some ad) zs.length c → (∀ j u, (zs.map (Value.int .i64))[j]? = some u → w.cell? (ad.add j) = some u) →
      ∃ v' w', (Builtin.append_ #[42, 42] ty #[v, x]).run Tryz.prog w = .ok v' w' ∧ w'.ownsRow base 3 1 v' (n + zs.length) (xs ++ zs.map (Value.int .i64)) ∧ w.grownBy w' v.ownBlock := by
    intro ad c ex hc
    subst ex
    obtain ⟨v', w', h1, h2, h3, _⟩ := run_append_own (P := Tryz.prog) w base 42 ty 3 i0 (.int .i64 0) 1 8 Tryz.underlying42 hi hz0 hz1 hz2 rfl (by decide) v n xs hown ad zs.length c (zs.map (Value.int .i64)) (by simp) hc
      (fun u hu => by obtain ⟨y, _, rfl⟩ := List.mem_map.1 hu; rfl) (by unfold maxLen; omega) (by omega) hbase
    exact ⟨v', w', h1, h2, h3⟩
  rcases hx with ⟨hz, a, c, rfl⟩ | ⟨hz, b, o, c, rfl, hc⟩
  · subst hz
    cases a with
    | some ad => exact some_case ad c rfl (fun j u hj => by simp at hj)
    | none =>
      clear some_case
      rcases hown.2 with ⟨rfl, rfl⟩ | ⟨g, cap, cur, rfl, hb, hg, hnc, hcm, hs, ht⟩
      · refine ⟨.slice none 0 0, w, ?_, by simpa using hown, ⟨rfl, rfl, rfl, Nat.le_refl _, fun _ _ _ => rfl⟩⟩
        simp [Builtin.append_, run_underlying Tryz.underlying42, sizeOf, typeInfo, hi, Builtin.lenOf, Builtin.firstCells]
      · refine ⟨.slice (some ⟨g, 0, none⟩) n cap, w, ?_, by simpa using hown, ⟨rfl, rfl, rfl, Nat.le_refl _, fun _ _ _ => rfl⟩⟩
        simp [Builtin.append_, run_underlying Tryz.underlying42, sizeOf, typeInfo, hi, Builtin.lenOf, Builtin.firstCells, hnc, storeCells]
  · refine some_case ⟨b, o, none⟩ c rfl (fun j u hj => ?_)
    have hjl : j < zs.length := by have := (List.getElem?_eq_some_iff.1 hj).1; simpa using this
    rw [Addr.add_lit, hc j hjl]
    rw [← hj]
    simp [List.getD, hjl]

theorem below_of_grownS {B : Nat} {w w' : World} {v : Value} (hg : w.grownBy w' v.ownBlock) (hB : B ≤ w.heap.size) {base n : Nat} {xs : List Value} (ho : w.ownsRow base 3 1 v n xs) (hb : B ≤ base) : Below B w w' :=
  (Below.refl B w).grown hg hB (fun k hk => by
    rcases ho.2 with ⟨rfl, _⟩ | ⟨g, cap, cur, rfl, hbg, _⟩
    · cases hk
    · have : g = k := by simpa [Value.ownBlock] using hk
      omega)

/-- OwnInts: a copy in memory of its own. -/
theorem ownInts_any (zs : List Int) (v : Value) (w : World) (hm : zs.length ≤ 1000000) (h : IsInts w v zs) :
    Calls Tryz.prog 36 #[v] w fun e w' => ∃ v', e = .returned v' ∧ IsInts w' v' zs ∧ Below w.heap.size w w' := by
  obtain ⟨v', w', hr, ho, hg⟩ := run_append_ints w w.heap.size (.slice none 0 0) 0 [] (World.ownsRow_nil _ _ _ _) v zs h (by omega) (Nat.le_refl _) 42
  have HI : IsInts w' v' zs := isInts_of_owns ho
  have HB : Below w.heap.size w w' := below_of_grownS hg (Nat.le_refl _) (World.ownsRow_nil w w.heap.size _ _) (Nat.le_refl _)
  have HX : Hid (IsInts w' v' zs ∧ Below w.heap.size w w') := ⟨HI, HB⟩
  clear HI HB ho hg h
  go_enter Tryz.func36, Tryz.ntmps36
  go_wp2_with (at_builtin; refine Lib.wpList_append_run _ rfl _ _ _ _ rfl _ _ rfl rfl _ _ hr ?_)
  go_ret
  exact ⟨v', rfl, HX.out⟩

set_option maxRecDepth 100000 in
set_option maxHeartbeats 1000000 in
/-- slices.Grow of the nil slice: it owns nothing yet. -/
theorem grow_nil (n : Nat) (k : Int) (hk : k = n) (w : World) (hm : n ≤ 10000000) :
    Calls Tryz.prog 88 #[.slice none 0 0, .int .i64 k] w fun e w' => ∃ v', e = .returned v' ∧ w'.ownsRow w.heap.size 3 1 v' 0 [] ∧ Below w.heap.size w w' := by
  subst hk
  obtain ⟨i0, hi, hz0, hz1, hz2⟩ := info_parts Tryz.infoIntS
  by_cases h0 : n = 0
  · subst h0
    go_enter Tryz.func88, Tryz.ntmps88
    go_wp2
    go_ret
    exact ⟨.slice none 0 0, rfl, World.ownsRow_nil _ _ _ _, Below.refl _ _⟩
  · have hp : 0 < n := Nat.pos_of_ne_zero h0
    have hr := Lib.run_append_grow_zeros (P := Tryz.prog) w 42 3 42 3 i0 (.int .i64 0) .i64 .i64 Tryz.underlying42 Tryz.underlying3 hi hz0 none 0 0 [] (run_firstCells_none w.drew i0.size 0 0 0) n hp (by omega) (by omega) (by omega) (by rw [hz2]; omega)
      (by rw [hz2]; exact growslice_fits (by omega) (by omega))
    simp only [Nat.zero_add] at hr
    have hge : n ≤ grownCap w n 0 3 := grownCap_ge w _ _ _
    have hle : grownCap w n 0 3 ≤ maxLen := grownCap_le_maxLen w n 0 3 (by unfold maxLen; omega)
    generalize grownCap w n 0 3 = G at hr hge hle
    have hle' : G ≤ 9223372036854775807 := by unfold maxLen at hle; omega
    clear h0
    go_enter Tryz.func88, Tryz.ntmps88
    go_wp2_with (at_builtin; refine Lib.wpList_append_run _ rfl _ _ _ _ rfl _ _ rfl rfl _ _ hr ?_)
    go_ret
    refine ⟨.slice (some ⟨w.heap.size, 0, none⟩) 0 G, rfl, ⟨by simp, Or.inr ⟨w.heap.size, G, _, rfl, Nat.le_refl _, heap_newS w _, by omega, hle, ?_, by simp⟩⟩, ?_⟩
    · simp [size_zeroCells]; omega
    · exact ((Below.refl _ _).drew.alloc (by simp) _)

set_option maxHeartbeats 2000000 in
set_option maxRecDepth 100000 in
/-- slices.Concat of two. -/
theorem concat_two (ys zs : List Int) (u v : Value) (sb : Nat) (w : World) (hy : ys.length ≤ 1000000) (hz : zs.length ≤ 1000000) (h1 : IsInts w u ys) (h2 : IsInts w v zs)
    (hu : w.cell? ⟨sb, 0, none⟩ = some u) (hv : w.cell? ⟨sb, 1, none⟩ = some v) :
    Calls Tryz.prog 61 #[.slice (some ⟨sb, 0, none⟩) 2 2] w fun e w' => ∃ v', e = .returned v' ∧ IsInts w' v' (ys ++ zs) ∧ Below w.heap.size w w' := by
  have H1 : Hid (IsInts w u ys) := h1
  have H2 : Hid (IsInts w v zs) := h2
  obtain ⟨ua, uc, rfl⟩ := h1.form
  obtain ⟨va, vc, rfl⟩ := h2.form
  have HU : Hid (w.cell? ⟨sb, 0, none⟩ = some (.slice ua ys.length uc)) := hu
  have HV : Hid (w.cell? ⟨sb, 1, none⟩ = some (.slice va zs.length vc)) := hv
  clear h1 h2
  generalize hny : ys.length = m at *
  generalize hnz : zs.length = n at *
  have HM : Hid (ys.length = m) := hny
  have HN : Hid (zs.length = n) := hnz
  clear hny hnz
  go_enter Tryz.func61, Tryz.ntmps61
  go_wp2_with fail
  refine wp_loop_rounds 3 ?_
  rw [rounds_succ]
  go_wp2_with fail
  rw [rounds_succ]
  go_wp2_with fail
  rw [rounds_succ]
  go_wp2_with fail
  refine (grow_nil (m + n) _ (by omega) _ (by omega)).mono ?_
  rintro e w1 ⟨v1, rfl, ho1, hB1⟩
  have hu1 := cell_keep hB1 HU.out
  have hw1 : w.heap.size ≤ w1.heap.size := hB1.size
  obtain ⟨v2, w2, hr2, ho2, hg2⟩ := run_append_ints w1 w.heap.size v1 0 [] ho1 (.slice ua m uc) ys (H1.out.below hB1) (by rw [HM.out]; omega) hw1 42
  have hB2 : Below w.heap.size w w2 := hB1.trans (below_of_grownS hg2 hw1 ho1 (Nat.le_refl _))
  have hv2 := cell_keep hB2 HV.out
  have hw2 : w.heap.size ≤ w2.heap.size := hB2.size
  obtain ⟨v3, w3, hr3, ho3, hg3⟩ := run_append_ints w2 w.heap.size v2 _ _ ho2 (.slice va n vc) zs (H2.out.below hB2) (by rw [HM.out, HN.out]; omega) hw2 42
  have hB3 : Below w.heap.size w w3 := hB2.trans (below_of_grownS hg3 hw2 ho2 (Nat.le_refl _))
  have hI3 : IsInts w3 v3 (ys ++ zs) := isInts_of_owns (by simpa using ho3)
  have HX : Hid (IsInts w3 v3 (ys ++ zs) ∧ Below w.heap.size w w3) := ⟨hI3, hB3⟩
  clear hI3 hB3 ho3 hg3 ho2 hg2 ho1 hB1 hB2 hu hv
  go_wp2_with fail
  refine wp_loop_rounds 3 ?_
  rw [rounds_succ]
  go_wp2_with (at_builtin; refine Lib.wpList_append_run _ rfl _ _ _ _ rfl _ _ rfl rfl _ _ hr2 ?_)
  rw [rounds_succ]
  go_wp2_with (at_builtin; refine Lib.wpList_append_run _ rfl _ _ _ _ rfl _ _ rfl rfl _ _ hr3 ?_)
  rw [rounds_succ]
  go_wp2
  go_ret
  exact ⟨v3, rfl, HX.out⟩
end Go.Proofs.YtimmkenmahagjaaGreatDoor

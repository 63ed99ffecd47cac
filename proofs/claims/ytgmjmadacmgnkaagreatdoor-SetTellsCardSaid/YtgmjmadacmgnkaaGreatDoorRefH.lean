/-
  The document's reading of a set: ReadSet of package fingerpostref1, where the text has the shape.
-/
import Derived.Test.YtgmjmadacmgnkaaGreatDoorRefF
import Derived.Test.YtgmjmadacmgnkaaGreatDoorRefG
namespace Go.Proofs.YtgmjmadacmgnkaaGreatDoor
open Go.RowKit Go.Extern.Stop Go.Stop Go.Extern Go.Sort

/-- What a text of the shape lets be read of its ends. -/
theorem ends (s : ByteArray) (I : List UInt8) (h : s.data.toList = 123 :: (I ++ [125])) : s.size = I.length + 2 ∧ (∃ hp : 0 < s.size, (((s[0]'hp).toNat : Int) != 123) = false) ∧ (∃ hq : s.size - 1 < s.size, (((s[s.size - 1]'hq).toNat : Int) != 125) = false) ∧ (s.extract 1 (s.size - 1)).data.toList = I := by
  have hz : s.size = I.length + 2 := by rw [Lib.size_eq, h]; simp
  have hp : 0 < s.size := by omega
  have hq : s.size - 1 < s.size := by omega
  refine ⟨hz, ⟨hp, ?_⟩, ⟨hq, ?_⟩, ?_⟩
  · have e : (s[0]'hp) = s.data.toList[0]'(by rw [← Lib.size_eq]; exact hp) := rfl
    have e2 : (s[0]'hp) = 123 := by rw [e]; simp [h]
    rw [e2]; rfl
  · have e : (s[s.size - 1]'hq) = s.data.toList[s.size - 1]'(by rw [← Lib.size_eq]; exact hq) := rfl
    have e2 : (s[s.size - 1]'hq) = 125 := by
      rw [e]
      have e3 : s.data.toList[s.size - 1]? = some 125 := by
        rw [h, hz]
        simp
      exact (List.getElem?_eq_some_iff.1 e3).2
    rw [e2]; rfl
  · rw [Lib.extract_data, h, hz]
    simp

set_option maxRecDepth 100000 in
set_option maxHeartbeats 2000000 in
theorem refRead_none (s : ByteArray) (w : World) (h : s.data.toList = [123, 125]) :
    Calls Tryz.prog 19 #[.string s] w fun e w' => e = .returned (.tuple #[.slice none 0 0, .int .i64 0]) ∧ w' = w := by
  obtain ⟨hz, ⟨hp, e0⟩, ⟨hq, e1⟩, _⟩ := ends s [] h
  have hz2 : s.size = 2 := hz
  have hq2 : 1 < s.size := by omega
  have e2 : (((s[1]'hq2).toNat : Int) != 125) = false := by
    have h9 : s.size - 1 = 1 := by omega
    simpa only [h9] using e1
  clear hz h e1 hq
  go_enter Tryz.func19, Tryz.ntmps19
  go_wp2
  go_ret2
  exact ⟨rfl, rfl⟩

theorem str_cells {w : World} {base n : Nat} {v : Value} {ws : List ByteArray} (h : w.ownsRow base 9 1 v n (ws.map Value.string)) (hn : ws ≠ []) : ∃ g c, v = .slice (some ⟨g, 0, none⟩) ws.length c ∧ ∀ j (hj : j < ws.length), w.cell? ⟨g, j, none⟩ = some (.string ws[j]) := by
  have hl : n = ws.length := by have := h.1; simp at this; omega
  rcases h.2 with ⟨rfl, h0⟩ | ⟨g, cap, cur, rfl, _⟩
  · exact absurd (List.eq_nil_of_length_eq_zero (by omega)) hn
  · refine ⟨g, cap, by rw [hl], fun j hj => ?_⟩
    have := h.cells (g := g) rfl j (.string ws[j]) (by simp [hj])
    rw [Addr.add_lit, Nat.zero_add] at this
    exact this

set_option maxRecDepth 100000 in
set_option maxHeartbeats 2000000 in
theorem refRead_words (s : ByteArray) (I : List UInt8) (c : Int) (w : World) (hs : s.size ≤ 100000) (h : s.data.toList = 123 :: (I ++ [125])) (hne : I ≠ []) (hok : ∀ x ∈ splitC 44 I, WordOk x) (hc : Ec ((splitC 44 I).map val) c) :
    Calls Tryz.prog 19 #[.string s] w fun e w' => ∃ (v' : Value) (zs : List Int), e = .returned (.tuple #[v', .int .i64 c]) ∧ IsInts w' v' zs ∧ (c = 0 → zs = (splitC 44 I).map val) ∧ (c ≠ 0 → zs = []) ∧ Below w.heap.size w w' := by
  obtain ⟨hz, ⟨hp, e0⟩, ⟨hq, e1⟩, hex⟩ := ends s I h
  have h3 : 3 ≤ s.size := by
    have := List.length_pos_iff.2 hne
    omega
  have hxs : (s.extract 1 (s.size - 1)).size ≤ 100000 := by
    rw [Lib.size_eq, hex]; omega
  have HEX : Hid ((s.extract 1 (s.size - 1)).data.toList = I) := hex
  have HOK : Hid (∀ x ∈ splitC 44 I, WordOk x) := hok
  have HC : Hid (Ec ((splitC 44 I).map val) c) := hc
  clear h hne hok hc hz hex
  go_enter Tryz.func19, Tryz.ntmps19
  go_wp2_with fail
  refine (cut_any (s.extract 1 (s.size - 1)) w hxs).mono ?_
  rintro e w1 ⟨v1, ws, rfl, hws, hwl, ho1, hB1⟩
  rw [HEX.out] at hws
  have hwn : ws ≠ [] := fun e => by
    rw [e] at hws
    have := congrArg List.length hws
    cases I with
    | nil => simp [splitC] at this
    | cons b l =>
      simp only [splitC] at this
      split at this
      · simp at this
      · split at this <;> simp at this
  obtain ⟨g, vc, rfl, hcell⟩ := str_cells ho1 hwn
  have HG : Hid (∀ k (hk : k < ws.length), WordOk ws[k].data.toList) := fun k hk => HOK.out _ (by
    rw [← hws]; exact List.mem_map.2 ⟨ws[k], List.getElem_mem hk, rfl⟩)
  have HF : Hid (vals ws = (splitC 44 I).map val) := by
    show vals ws = _
    rw [← hws, List.map_map]; rfl
  have HCL : Hid (∀ k (hk : k < ws.length), w1.cell? ⟨g, k, none⟩ = some (.string ws[k])) := hcell
  clear hcell ho1 hws hwn HOK HEX
  obtain ⟨n, hn⟩ : ∃ n, n = ws.length := ⟨_, rfl⟩
  rw [← hn] at hwl ⊢
  have HN : Hid (n = ws.length) := hn
  clear hn
  go_wp2_with fail
  go_loopw [5, 6] (fun u t wr => ∃ k : Nat, k ≤ n ∧ t = .int .i64 k ∧ wr.ownsRow w1.heap.size 3 1 u (vals (ws.take k)).length ((vals (ws.take k)).map (Value.int .i64)) ∧ Below w1.heap.size w1 wr) (fun _ t _ => (n - intOf t).toNat)
  case atStart => exact ⟨0, Nat.zero_le _, rfl, World.ownsRow_nil _ _ _ _, Below.refl _ _⟩
  case round =>
    obtain ⟨k, hk, rfl, ho, hB⟩ := hrel
    have HO : Hid (wr.ownsRow w1.heap.size 3 1 u5 (vals (ws.take k)).length ((vals (ws.take k)).map (Value.int .i64))) := ho
    have hlen : (vals (ws.take k)).length ≤ k := by rw [vals_length]; exact List.length_take_le _ _
    clear ho
    by_cases hlt : k < n
    · have hkl : k < ws.length := by rw [← HN.out]; exact hlt
      have ec := cell_keep hB (HCL.out k hkl)
      obtain ⟨x, hx⟩ : ∃ x, x = ws[k] := ⟨_, rfl⟩
      rw [← hx] at ec
      have HX : Hid (∃ hk : k < ws.length, x = ws[k]) := ⟨hkl, hx⟩
      have HW : Hid (WordOk x.data.toList) := by
        show WordOk _
        rw [hx]; exact HG.out k hkl
      clear hx hkl
      go_wp2_with fail
      refine (refNum_ok x wr HW.out.1 HW.out.2).mono ?_
      rintro e w2 ⟨rfl, hw⟩
      obtain rfl := hw.symm
      obtain ⟨z, hz⟩ : ∃ z, z = val x.data.toList := ⟨_, rfl⟩
      rw [← hz]
      have hz0 : 0 ≤ z := by
        have := val_small x.data.toList HW.out.2 x.data.toList.length (Nat.le_refl _) HW.out.1.2.1
        rw [List.take_length, ← hz] at this
        exact this.1
      have HV : Hid (z = val x.data.toList) := hz
      clear hz
      have ho2 : (wr.alloc (.cells #[.int .i64 z] 3)).ownsRow w1.heap.size 3 1 u5 (vals (ws.take k)).length ((vals (ws.take k)).map (Value.int .i64)) := HO.out.alloc _
      have hsz : w1.heap.size ≤ (wr.alloc (.cells #[.int .i64 z] 3)).heap.size := by have := hB.size; simp; omega
      obtain ⟨v', w3, hr, ho3, hg⟩ := run_append_ints (wr.alloc (.cells #[.int .i64 z] 3)) w1.heap.size u5 _ _ ho2 (.slice (some ⟨wr.heap.size, 0, none⟩) 1 1) [z] (isInts_of_cells rfl (fun j hj => by
        obtain rfl : j = 0 := by simpa using hj
        simp)) (by simp; omega) hsz 22
      have hB3 : Below w1.heap.size w1 w3 := (hB.alloc hB.size _).trans (below_of_grown hg hsz ho2 (Nat.le_refl _))
      have HY : Hid (w3.ownsRow w1.heap.size 3 1 v' (vals (ws.take (k + 1))).length ((vals (ws.take (k + 1))).map (Value.int .i64)) ∧ Below w1.heap.size w1 w3) := by
        refine ⟨?_, hB3⟩
        obtain ⟨hkl, hx⟩ := HX.out
        rw [vals_snoc ws k hkl, ← hx, ← HV.out]
        simpa using ho3
      clear ho2 ho3 hg hB3
      go_wp2_with (at_builtin; refine Lib.wpList_append_run _ rfl _ _ _ _ rfl _ _ rfl rfl _ _ hr ?_)
      go_roundw
      case rel => exact ⟨k + 1, hlt, by go_num, HY.out.1, HY.out.2⟩
      case measure => simp [intOf]; omega
    · have hkn : k = ws.length := by rw [← HN.out]; omega
      have hI := isInts_of_owns HO.out
      rw [hkn, List.take_length, HF.out] at hI
      have hvl : ((splitC 44 I).map val).length ≤ 1000000 := by rw [← HF.out, vals_length, ← HN.out]; omega
      have HI : Hid (IsInts wr u5 ((splitC 44 I).map val) ∧ ((splitC 44 I).map val).length ≤ 1000000) := ⟨hI, hvl⟩
      clear hI hvl hkn
      go_wp2_with fail
      refine (refErr_any _ c u5 wr HI.out.2 HI.out.1 HC.out).mono ?_
      rintro e w2 ⟨rfl, hB2⟩
      have hBw : Below w.heap.size w w2 := (hB1.trans (hB.mono hB1.size)).trans (hB2.mono (Nat.le_trans hB1.size hB.size))
      have HI2 : Hid (IsInts w2 u5 ((splitC 44 I).map val)) := HI.out.1.below hB2
      by_cases h0 : c = 0
      · have hc0 : c ≤ 0 := by omega
        have H0 : Hid (c = 0) := h0
        clear h0 HI hB2
        go_wp2_with fail
        go_ret2
        exact ⟨u5, _, by rw [H0.out]; rfl, HI2.out, fun _ => rfl, fun g => absurd H0.out g, hBw⟩
      · have hc0 : 0 < c := HC.out.pos h0
        have H0 : Hid (c ≠ 0) := h0
        clear h0 HI hB2
        go_wp2_with fail
        go_ret2
        exact ⟨_, [], rfl, IsInts.nil _ _ _, fun g => absurd g H0.out, fun _ => rfl, hBw⟩

set_option maxRecDepth 100000 in
set_option maxHeartbeats 2000000 in
theorem refRead_bad (s : ByteArray) (I : List UInt8) (w : World) (hs : s.size ≤ 100000) (h : s.data.toList = 123 :: (I ++ [125])) (hne : I ≠ []) (hbad : ¬ ∀ x ∈ splitC 44 I, WordOk x) :
    Calls Tryz.prog 19 #[.string s] w fun e w' => e = .returned (.tuple #[.slice none 0 0, .int .i64 1]) ∧ Below w.heap.size w w' := by
  obtain ⟨hz, ⟨hp, e0⟩, ⟨hq, e1⟩, hex⟩ := ends s I h
  have h3 : 3 ≤ s.size := by
    have := List.length_pos_iff.2 hne
    omega
  have hxs : (s.extract 1 (s.size - 1)).size ≤ 100000 := by
    rw [Lib.size_eq, hex]; omega
  have HEX : Hid ((s.extract 1 (s.size - 1)).data.toList = I) := hex
  have HBAD : Hid (¬ ∀ x ∈ splitC 44 I, WordOk x) := hbad
  clear h hne hbad hz hex
  go_enter Tryz.func19, Tryz.ntmps19
  go_wp2_with fail
  refine (cut_any (s.extract 1 (s.size - 1)) w hxs).mono ?_
  rintro e w1 ⟨v1, ws, rfl, hws, hwl, ho1, hB1⟩
  rw [HEX.out] at hws
  have HG : Hid (¬ ∀ k (hk : k < ws.length), WordOk ws[k].data.toList) := fun hall => HBAD.out (fun x hx => by
    rw [← hws] at hx
    obtain ⟨y, hy, rfl⟩ := List.mem_map.1 hx
    obtain ⟨k, hk, rfl⟩ := List.mem_iff_getElem.1 hy
    exact hall k hk)
  have hwn : ws ≠ [] := fun e => HG.out (fun k hk => by rw [e] at hk; exact absurd hk (Nat.not_lt_zero _))
  obtain ⟨g, vc, rfl, hcell⟩ := str_cells ho1 hwn
  have HCL : Hid (∀ k (hk : k < ws.length), w1.cell? ⟨g, k, none⟩ = some (.string ws[k])) := hcell
  clear hcell ho1 hws hwn HBAD HEX
  obtain ⟨n, hn⟩ : ∃ n, n = ws.length := ⟨_, rfl⟩
  rw [← hn] at hwl ⊢
  have HN : Hid (n = ws.length) := hn
  clear hn
  go_wp2_with fail
  go_loopw [2, 3, 5, 6] (fun _ _ u t wr => ∃ k : Nat, k ≤ n ∧ t = .int .i64 k ∧ wr.ownsRow w1.heap.size 3 1 u (vals (ws.take k)).length ((vals (ws.take k)).map (Value.int .i64)) ∧ Below w1.heap.size w1 wr ∧ (∀ j (hj : j < ws.length), j < k → WordOk ws[j].data.toList)) (fun _ _ _ t _ => (n - intOf t).toNat)
  case atStart => exact ⟨0, Nat.zero_le _, rfl, World.ownsRow_nil _ _ _ _, Below.refl _ _, fun j _ g => absurd g (Nat.not_lt_zero _)⟩
  case round =>
    obtain ⟨k, hk, rfl, ho, hB, hgo⟩ := hrel
    have HO : Hid (wr.ownsRow w1.heap.size 3 1 u5 (vals (ws.take k)).length ((vals (ws.take k)).map (Value.int .i64))) := ho
    have hlen : (vals (ws.take k)).length ≤ k := by rw [vals_length]; exact List.length_take_le _ _
    have HGO : Hid (∀ j (hj : j < ws.length), j < k → WordOk ws[j].data.toList) := hgo
    clear ho hgo
    by_cases hlt : k < n
    · have hkl : k < ws.length := by rw [← HN.out]; exact hlt
      have ec := cell_keep hB (HCL.out k hkl)
      obtain ⟨x, hx⟩ : ∃ x, x = ws[k] := ⟨_, rfl⟩
      rw [← hx] at ec
      have HX : Hid (∃ hk : k < ws.length, x = ws[k]) := ⟨hkl, hx⟩
      clear hx hkl
      by_cases hW : WordOk x.data.toList
      · have HW : Hid (WordOk x.data.toList) := hW
        clear hW
        go_wp2_with fail
        refine (refNum_ok x wr HW.out.1 HW.out.2).mono ?_
        rintro e w2 ⟨rfl, hw⟩
        obtain rfl := hw.symm
        obtain ⟨z, hz⟩ : ∃ z, z = val x.data.toList := ⟨_, rfl⟩
        rw [← hz]
        have hz0 : 0 ≤ z := by
          have := val_small x.data.toList HW.out.2 x.data.toList.length (Nat.le_refl _) HW.out.1.2.1
          rw [List.take_length, ← hz] at this
          exact this.1
        have HV : Hid (z = val x.data.toList) := hz
        clear hz
        have ho2 : (wr.alloc (.cells #[.int .i64 z] 3)).ownsRow w1.heap.size 3 1 u5 (vals (ws.take k)).length ((vals (ws.take k)).map (Value.int .i64)) := HO.out.alloc _
        have hsz : w1.heap.size ≤ (wr.alloc (.cells #[.int .i64 z] 3)).heap.size := by have := hB.size; simp; omega
        obtain ⟨v', w3, hr, ho3, hg⟩ := run_append_ints (wr.alloc (.cells #[.int .i64 z] 3)) w1.heap.size u5 _ _ ho2 (.slice (some ⟨wr.heap.size, 0, none⟩) 1 1) [z] (isInts_of_cells rfl (fun j hj => by
          obtain rfl : j = 0 := by simpa using hj
          simp)) (by simp; omega) hsz 22
        have hB3 : Below w1.heap.size w1 w3 := (hB.alloc hB.size _).trans (below_of_grown hg hsz ho2 (Nat.le_refl _))
        have HY : Hid (w3.ownsRow w1.heap.size 3 1 v' (vals (ws.take (k + 1))).length ((vals (ws.take (k + 1))).map (Value.int .i64)) ∧ Below w1.heap.size w1 w3) := by
          refine ⟨?_, hB3⟩
          obtain ⟨hkl, hx⟩ := HX.out
          rw [vals_snoc ws k hkl, ← hx, ← HV.out]
          simpa using ho3
        clear ho2 ho3 hg hB3
        go_wp2_with (at_builtin; refine Lib.wpList_append_run _ rfl _ _ _ _ rfl _ _ rfl rfl _ _ hr ?_)
        go_roundw
        case rel =>
          refine ⟨k + 1, hlt, by go_num, HY.out.1, HY.out.2, fun j hj hjk => ?_⟩
          rcases Nat.lt_succ_iff_lt_or_eq.1 hjk with g | g
          · exact HGO.out j hj g
          · obtain ⟨hkl, hx⟩ := HX.out
            subst g
            rw [← hx]; exact HW.out
        case measure => simp [intOf]; omega
      · have HR : Hid (Calls Tryz.prog 37 #[.string x, .int .i64 9] wr fun e w' => e = .returned (.int .i64 (-1)) ∧ w' = wr) := by
          by_cases hH : HeadOk x.data.toList
          · exact refNum_bad x wr hH (fun g => hW ⟨hH, g⟩)
          · exact refNum_head x wr hH
        clear hW
        go_wp2_with fail
        refine HR.out.mono ?_
        rintro e w2 ⟨rfl, hw⟩
        obtain rfl := hw.symm
        go_wp2_with fail
        go_ret2
        exact ⟨rfl, hB1.trans (hB.mono hB1.size)⟩
    · exact absurd (fun j hj => HGO.out j hj (by rw [← HN.out] at hj; omega)) HG.out
end Go.Proofs.YtgmjmadacmgnkaaGreatDoor

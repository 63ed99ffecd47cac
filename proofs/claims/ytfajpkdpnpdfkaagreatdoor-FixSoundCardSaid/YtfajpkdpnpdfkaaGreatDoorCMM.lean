/-
  ConsMore and its like: LargeSets, OwnSets, by contracts.
-/
import Derived.Test.YtfajpkdpnpdfkaaGreatDoorXFM
namespace Go.Proofs.YtfajpkdpnpdfkaaGreatDoor
open Go.RowKit Go.Extern.Stop Go.Stop Go.Extern

set_option maxHeartbeats 4000000 in
theorem largeSets_any (hs : List (List Int)) (v : Value) (w : World) (h : IsSets w v hs) :
    Calls Tryz.prog 9 #[v] w fun e w' => ∃ r : Int, e = .returned (.int .i64 r) ∧ (r = 1 ∨ (r = 0 ∧ hs.length ≤ 50 ∧ ∀ j, j < hs.length → (hs.getD j []).length ≤ 60)) ∧ Below w.heap.size w w' := by
  obtain ⟨va, vc, rfl, hrow⟩ := h
  obtain ⟨n, hn⟩ : ∃ n, n = hs.length := ⟨_, rfl⟩
  rw [← hn] at hrow ⊢
  have HR : Hid (∀ j, j < n → ∃ b o x, va = some ⟨b, o, none⟩ ∧ w.cell? ⟨b, o + j, none⟩ = some x ∧ IsInts w x (hs.getD j [])) := hrow
  clear hrow hn
  by_cases h50 : (50 : Int) < n
  · go_enter Tryz.func9, Tryz.ntmps9
    go_wp2_with fail
    go_ret
    exact ⟨1, rfl, Or.inl rfl, Below.refl _ _⟩
  · go_enter Tryz.func9, Tryz.ntmps9
    go_wp2_with fail
    go_loopw [3] (fun t wr => ∃ k : Nat, k ≤ n ∧ t = .int .i64 k ∧ (∀ j, j < k → (hs.getD j []).length ≤ 60) ∧ Below w.heap.size w wr) (fun t _ => (n - intOf t).toNat)
    case atStart => exact ⟨0, Nat.zero_le _, rfl, fun j hj => absurd hj (Nat.not_lt_zero _), Below.refl _ _⟩
    case round =>
      obtain ⟨k, hk, rfl, hall, hwr⟩ := hrel
      by_cases hlt : k < n
      · obtain ⟨b, o, x, rfl, e0, hx⟩ := HR.out k hlt
        obtain ⟨xa, xc, rfl⟩ := isInts_form hx
        replace e0 := cell_keep hwr e0
        have hki : (k : Int) < n := by omega
        obtain ⟨m, hm⟩ : ∃ m, m = (hs.getD k []).length := ⟨_, rfl⟩
        rw [← hm] at e0
        have HA : Hid ((∀ j, j < k → (hs.getD j []).length ≤ 60) ∧ m = (hs.getD k []).length) := ⟨hall, hm⟩
        clear hall hm hx
        by_cases h60 : (60 : Int) < m
        · go_wp2_with fail
          go_ret
          exact ⟨1, rfl, Or.inl rfl, hwr⟩
        · go_wp2_with fail
          go_roundw
          case rel =>
            refine ⟨k + 1, hlt, by go_num, fun j hj => ?_, hwr⟩
            by_cases e : j = k
            · rw [e, ← HA.out.2]; omega
            · exact HA.out.1 j (by omega)
          case measure => simp [intOf]; omega
      · have hkn : k = n := by omega
        subst hkn
        have HA : Hid (∀ j, j < k → (hs.getD j []).length ≤ 60) := hall
        clear hall
        go_wp2_with fail
        go_ret
        exact ⟨0, rfl, Or.inr ⟨rfl, by omega, HA.out⟩, hwr⟩

abbrev TSI : TypeId := 42
abbrev TSS : TypeId := 27
theorem Tryz.infoInts : (Tryz.prog.info? 42).map (fun i => (i.zero, i.size, i.bytes)) = some (some (.slice none 0 0), 1, 24) := by kernel_rfl
/-- Sets in memory of their own. -/
structure OwnS (w : World) (B : Nat) (u : Value) (hs : List (List Int)) (vs : List Value) : Prop where
  len : vs.length = hs.length
  row : w.ownsRow B TSI 1 u hs.length vs
  sets : ∀ j, j < hs.length → ∃ pa pc, vs.getD j .nilIface = .slice pa (hs.getD j []).length pc ∧ w.ownsRow B 3 1 (.slice pa (hs.getD j []).length pc) (hs.getD j []).length ((hs.getD j []).map intV)
theorem OwnS.below {w w' : World} {B : Nat} {u : Value} {hs : List (List Int)} {vs : List Value} (h : OwnS w B u hs vs) (hb : Below w.heap.size w w') : OwnS w' B u hs vs :=
  ⟨h.len, owns_below h.row hb, fun j hj => by obtain ⟨pa, pc, h1, h2⟩ := h.sets j hj; exact ⟨pa, pc, h1, owns_below h2 hb⟩⟩
theorem OwnS.isSets {w : World} {B : Nat} {u : Value} {hs : List (List Int)} {vs : List Value} (h : OwnS w B u hs vs) : IsSets w u hs := by
  have hr := h.row
  obtain ⟨a, c, rfl⟩ := owns_form hr
  refine ⟨a, c, rfl, fun j hj => ?_⟩
  rcases hr.2 with ⟨q, e⟩ | ⟨g, cap, cur, hv, hg, hh, hcap, hmax, hsz, hcur⟩
  · omega
  · cases hv
    obtain ⟨pa, pc, h1, h2⟩ := h.sets j hj
    refine ⟨g, 0, vs.getD j .nilIface, rfl, ?_, by rw [h1]; exact (isCap_of_owns h2).1⟩
    rw [Lib.cell_of_heap hh, Nat.zero_add]
    have h3 : (cur.toList.take (hs.length * 1))[j]? = vs[j]? := by rw [hcur]
    rw [List.getElem?_take_of_lt (by omega)] at h3
    simp only [Array.getElem?_toList] at h3
    rw [h3]
    have : j < vs.length := by rw [h.len]; exact hj
    simp [List.getD, this]

set_option maxRecDepth 100000 in
set_option maxHeartbeats 4000000 in
theorem ownSets_any (hs : List (List Int)) (v : Value) (w : World) (h : IsSets w v hs) (hn : hs.length ≤ 1000000) (hl : ∀ j, j < hs.length → (hs.getD j []).length ≤ 1000000) :
    Calls Tryz.prog 11 #[v] w fun e w' => ∃ ua uc vs, e = .returned (.slice ua hs.length uc) ∧ OwnS w' w.heap.size (.slice ua hs.length uc) hs vs ∧ Below w.heap.size w w' := by
  obtain ⟨va, vc, rfl, hrow⟩ := h
  obtain ⟨n, hnn⟩ : ∃ n, n = hs.length := ⟨_, rfl⟩
  rw [← hnn] at hrow hn hl ⊢
  have HR : Hid (∀ j, j < n → ∃ b o x, va = some ⟨b, o, none⟩ ∧ w.cell? ⟨b, o + j, none⟩ = some x ∧ IsInts w x (hs.getD j [])) := hrow
  have HN : Hid (n = hs.length) := hnn
  have HL : Hid (∀ j, j < n → (hs.getD j []).length ≤ 1000000) := hl
  clear hrow hnn hl
  go_enter Tryz.func11, Tryz.ntmps11
  go_wp2_with fail
  go_loopw [3, 4] (fun t3 t4 wr => ∃ (k : Nat) (vs : List Value), k ≤ n ∧ t4 = .int .i64 k ∧ OwnS wr w.heap.size t3 (hs.take k) vs ∧ Below w.heap.size w wr) (fun _ t4 _ => (n - intOf t4).toNat)
  case atStart => exact ⟨0, [], Nat.zero_le _, rfl, ⟨rfl, World.ownsRow_nil _ _ _ _, fun j hj => by simp at hj⟩, Below.refl _ _⟩
  case round =>
    obtain ⟨k, vs, hk, rfl, hO, hwr⟩ := hrel
    have hkl : (hs.take k).length = k := by rw [List.length_take, ← HN.out]; omega
    have hro := hO.row
    rw [hkl] at hro
    obtain ⟨ua, uc, rfl⟩ := owns_form hro
    by_cases hlt : k < n
    · obtain ⟨b, o, x, rfl, e0, hx⟩ := HR.out k hlt
      replace e0 := cell_keep hwr e0
      have hki : (k : Int) < n := by omega
      have KO : Hid _ := ownInts_row (hs.getD k []) x wr (HL.out k hlt) (hx.below hwr)
      obtain ⟨xa, xc, rfl⟩ := isInts_form hx
      obtain ⟨m, hm⟩ : ∃ m, m = (hs.getD k []).length := ⟨_, rfl⟩
      rw [← hm] at e0 KO
      have HO : Hid (OwnS wr w.heap.size (.slice ua k uc) (hs.take k) vs ∧ m = (hs.getD k []).length) := ⟨hO, hm⟩
      clear hO hro hm hx
      go_wp2_with fail
      refine Calls.mono KO.out ?_
      rintro e w2 ⟨pa, pc, rfl, ho2, hb2⟩
      have hB2 : Below w.heap.size w w2 := hwr.trans (hb2.mono hwr.size)
      have hO2 := HO.out.1.below hb2
      have hr2 := hO2.row
      rw [hkl] at hr2
      obtain ⟨v', w3, hr, ho3, hb3, hk3⟩ := append_one w2 w.heap.size (.slice ua k uc) k 1 24 TSS TSI (.slice none 0 0) vs [.slice pa m pc] hr2 hB2.size Tryz.underlying27 Tryz.infoInts (by decide) rfl rfl (fun v hv => by rw [List.mem_singleton.1 hv]; rfl) (by omega) TSS (by decide)
      obtain ⟨ya, yc, rfl⟩ := owns_form ho3
      have HNX : Hid (OwnS w3 w.heap.size (.slice ya (k + 1) yc) (hs.take (k + 1)) (vs ++ [.slice pa m pc]) ∧ Below w.heap.size w w3) := by
        have hts : hs.take (k + 1) = hs.take k ++ [hs.getD k []] := take_snoc hs [] k (by rw [← HN.out]; exact hlt)
        have hl1 : (hs.take (k + 1)).length = k + 1 := by rw [List.length_take, ← HN.out]; omega
        refine ⟨⟨by rw [hl1]; simp [hO2.len, hkl], by rw [hl1]; exact ho3, fun j hj => ?_⟩, hB2.trans hb3⟩
        rw [hl1] at hj
        by_cases ej : j = k
        · subst ej
          have hg : (hs.take (j + 1)).getD j [] = hs.getD j [] := by
            rw [hts]; exact getD_snoc_last _ _ _ _ hkl.symm
          rw [hg, ← HO.out.2]
          refine ⟨pa, pc, getD_snoc_last _ _ _ _ (by rw [hO2.len, hkl]), ?_⟩
          have := owns_kept (owns_mono ho2 hwr.size) hk3 (by decide)
          exact this
        · have hg : (hs.take (k + 1)).getD j [] = (hs.take k).getD j [] := by
            rw [hts]; exact getD_snoc_left _ _ _ _ (by rw [hkl]; omega)
          rw [hg]
          obtain ⟨qa, qc, q1, q2⟩ := hO2.sets j (by rw [hkl]; omega)
          exact ⟨qa, qc, by rw [getD_snoc_left _ _ _ _ (by rw [hO2.len, hkl]; omega)]; exact q1, owns_kept q2 hk3 (by decide)⟩
      have HRA : Hid ((Builtin.append_ #[TSS, TSS] TSS #[.slice ua k uc, .slice (some ⟨w2.heap.size, 0, none⟩) 1 1]).run Tryz.prog (w2.alloc (.cells #[.slice pa m pc] TSI)) = .ok (.slice ya (k + 1) yc) w3) := hr
      clear hr ho3 hb3 hk3 ho2 hO2 hr2 hb2 hB2 HO KO
      go_wp2_with (at_builtin; refine Lib.wpList_append_run _ rfl _ _ _ _ rfl _ _ rfl rfl _ _ HRA.out ?_)
      go_roundw
      case rel => exact ⟨k + 1, _, hlt, by go_num, HNX.out.1, HNX.out.2⟩
      case measure => simp [intOf]; omega
    · have hkn : k = n := by omega
      subst hkn
      have hts : hs.take k = hs := List.take_of_length_le (by rw [← HN.out]; exact Nat.le_refl _)
      rw [hts] at hO
      have HO : Hid (OwnS wr w.heap.size (.slice ua k uc) hs vs) := hO
      clear hO hro hts
      go_wp2_with fail
      go_ret
      exact ⟨ua, uc, vs, rfl, HO.out, hwr⟩
end Go.Proofs.YtfajpkdpnpdfkaaGreatDoor

/-
  Package cons: follow, by a contract.
-/
import Derived.Test.YtimmkenmahagjaaGreatDoorCJ
namespace Go.Proofs.YtimmkenmahagjaaGreatDoor
open Go.RowKit Go.Extern.Stop Go.Stop Go.Extern

/-- A [][]int that reads as hs. -/
def IsSets (w : World) (v : Value) (hs : List (List Int)) : Prop :=
  ∃ a c, v = .slice a hs.length c ∧ ∀ j, j < hs.length → ∃ b o x, a = some ⟨b, o, none⟩ ∧ w.cell? ⟨b, o + j, none⟩ = some x ∧ IsInts w x (hs.getD j [])
theorem IsSets.below {w w' : World} {v : Value} {hs : List (List Int)} (h : IsSets w v hs) (hb : Below w.heap.size w w') : IsSets w' v hs := by
  obtain ⟨a, c, e, q⟩ := h
  refine ⟨a, c, e, fun j hj => ?_⟩
  obtain ⟨b, o, x, h1, h2, h3⟩ := q j hj
  exact ⟨b, o, x, h1, cell_keep hb h2, h3.below hb⟩
theorem flat_take {α β : Type} (l : List α) (d : α) (g : α → List β) (k : Nat) (h : k < l.length) : (l.take (k + 1)).flatMap g = (l.take k).flatMap g ++ g (l.getD k d) := by
  rw [take_snoc l d k h, List.flatMap_append]; simp
theorem flat_take_le {α β : Type} (l : List α) (g : α → List β) (k : Nat) : ((l.take k).flatMap g).length ≤ (l.flatMap g).length := by
  have : l.flatMap g = (l.take k).flatMap g ++ (l.drop k).flatMap g := by rw [← List.flatMap_append, List.take_append_drop]
  rw [this]; simp

set_option maxRecDepth 100000 in
set_option maxHeartbeats 8000000 in
theorem follow_any {w0 w : World} {fb : Nat} {es : List Pair} {u : Value} (h : Found w w0.heap.size fb es u) (hw : Below w0.heap.size w0 w) (P : ProgD) (v1 v2 v3 : Value) (hF : IsFuns w0 v2 P.funs) (hfp : ∀ i, i < P.funs.length → (P.funs.getD i default).params.length ≤ 1000)
    (hv : Value) (hs : List (List Int)) (hH : IsSets w0 hv hs) (hn : hs.length ≤ 1000000) (r : RuleD) (av : Value) (ha : IsInts w0 av r.args) (hl2 : r.args.length ≤ 1000000) (kd : ByteArray) (hkd : kd.toList = r.kind)
    (hask : ¬ askedD r < 0 → (askedD r).toNat < hs.length) (hset : ∀ j, j < (setAt hs (askedD r)).length → 0 ≤ (setAt hs (askedD r)).getD j 0 ∧ (setAt hs (askedD r)).getD j 0 ≤ 1000000 ∧ (r.kind = kCall → ¬ (setAt hs (askedD r)).getD j 0 < (hs.length : Int) → ((setAt hs (askedD r)).getD j 0 - hs.length).toNat < P.funs.length))
    (hsl : (setAt hs (askedD r)).length ≤ 1000000) (hl : (es ++ followD P hs r).length ≤ 900000) :
    Calls Tryz.prog 79 #[.agg #[v1, v2, v3], .agg #[.string kd, .int .i64 r.a, .int .i64 r.b, .int .i64 r.stmt, av], hv, joinV fb] w fun e w' => JoinPost w0 w fb es (followD P hs r) e w' := by
  have hB := h.size
  obtain ⟨hva, hvc, rfl, hrow⟩ := hH
  obtain ⟨n, hnn⟩ : ∃ n, n = hs.length := ⟨_, rfl⟩
  have HN : Hid (n = hs.length) := hnn
  rw [← hnn] at hn hrow hask hset ⊢
  clear hnn
  obtain ⟨W, hW⟩ : ∃ W, W = (w.alloc (.cells #[v1, v2, v3] 26)).alloc (ruleBox kd r.a r.b r.stmt av) := ⟨_, rfl⟩
  have hBW : Below w.heap.size w W := by rw [hW]; exact (below1 w _).alloc (by simp) _
  have HFB : Hid (W.heap[w.heap.size]? = some (.cells #[v1, v2, v3] 26 (0, 0)) ∧ W.heap[w.heap.size + 1]? = some (ruleBox kd r.a r.b r.stmt av)) := by
    refine ⟨?_, ?_⟩
    · rw [hW]; exact block_keep (below1 _ _) (heap_new w _)
    · rw [hW]
      have := heap_new (w.alloc (.cells #[v1, v2, v3] 26)) (ruleBox kd r.a r.b r.stmt av)
      simpa using this
  have HF0 : Hid (Found W w0.heap.size fb es u ∧ Below w0.heap.size w W ∧ KE w W ∧ Below w0.heap.size w0 w) := ⟨h.below hBW, hBW.mono hB, KE.of_below hBW, hw⟩
  have KB : Hid (∀ wx, KE W wx → wx.cell? ⟨w.heap.size, 1, none⟩ = some v2 ∧ wx.cell? ⟨w.heap.size + 1, 0, none⟩ = some (.string kd) ∧ wx.cell? ⟨w.heap.size + 1, 1, none⟩ = some (.int .i64 r.a) ∧ wx.cell? ⟨w.heap.size + 1, 2, none⟩ = some (.int .i64 r.b) ∧ wx.cell? ⟨w.heap.size + 1, 3, none⟩ = some (.int .i64 r.stmt) ∧ wx.cell? ⟨w.heap.size + 1, 4, none⟩ = some av) := fun wx hk => by
    have h1 := hk _ _ _ _ HFB.out.1 (by decide) (by decide)
    have h2 := hk _ _ _ _ HFB.out.2 (by decide) (by decide)
    refine ⟨?_, ?_, ?_, ?_, ?_, ?_⟩
    · rw [Lib.cell_of_heap h1]; rfl
    · rw [Lib.cell_of_heap h2]; rfl
    · rw [Lib.cell_of_heap h2]; rfl
    · rw [Lib.cell_of_heap h2]; rfl
    · rw [Lib.cell_of_heap h2]; rfl
    · rw [Lib.cell_of_heap h2]; rfl
  obtain ⟨b1, c0, c1, c2, c3, c4⟩ := KB.out W (KE.refl _)
  by_cases hcp : r.kind = kCopy
  · have g0 : (kd.toList == [99, 111, 112, 121]) = true := by rw [hkd, hcp]; decide
    have hasked : askedD r = -1 := by
      unfold askedD
      rw [if_neg (by rw [hcp]; decide), if_neg (by rw [hcp]; decide), if_neg (by rw [hcp]; decide)]
    have HX : Hid (followD P hs r = [(r.a, r.b)]) := by
      show _ = _
      unfold followD copyD
      rw [if_pos hcp, hasked]; simp
    have HJ : Hid (Calls Tryz.prog 80 #[.int .i64 r.a, .int .i64 r.b, .pointer (some ⟨fb, 0, none⟩)] W fun e w' => JoinPost w0 W fb es [(r.a, r.b)] e w') := join_any HF0.out.1 (by simp at hl; omega) r.a r.b
    have KA : Hid (∀ wx, Calls Tryz.prog 110 #[.agg #[.string kd, .int .i64 r.a, .int .i64 r.b, .int .i64 r.stmt, av]] wx fun e w' => e = .returned (.int .i64 (-1)) ∧ Below wx.heap.size wx w') := fun wx => by
      have := asked_any r av kd hkd wx
      rw [hasked] at this
      exact this
    obtain ⟨ra, hra⟩ : ∃ z, z = r.a := ⟨_, rfl⟩
    obtain ⟨rb, hrb⟩ : ∃ z, z = r.b := ⟨_, rfl⟩
    obtain ⟨rs, hrs⟩ : ∃ z, z = r.stmt := ⟨_, rfl⟩
    rw [← hra, ← hrb, ← hrs] at hW KA KB ⊢
    rw [← hra] at HJ HX c1
    rw [← hrb] at HJ HX c2
    rw [← hrs] at c3
    clear hra hrb hrs h hw hrow hask hset hsl hl hcp hkd hasked HFB
    go_enter Tryz.func79, Tryz.ntmps79
    go_upto_region 1 with fail
    rw [← hW]
    clear hW
    go_wp2_with fail
    refine HJ.out.mono ?_
    rintro e w2 ⟨rfl, u2, hF2, hb2, hk2⟩
    clear b1 c0 c1 c2 c3 c4
    obtain ⟨b1, c0, c1, c2, c3, c4⟩ := KB.out w2 hk2
    go_wp2_with fail
    refine (KA.out _).mono ?_
    rintro e w3 ⟨rfl, hB3⟩
    go_wp2_with fail
    refine bodyPost_ret (results_none rfl _ _ _) rfl ?_
    exact ⟨rfl, u2, by rw [HX.out]; exact hF2.below hB3, (HF0.out.2.1.trans hb2).trans (hB3.mono hF2.size), (HF0.out.2.2.1.trans hk2).trans (KE.of_below hB3)⟩
  · have g0 : (kd.toList == [99, 111, 112, 121]) = false := by rw [hkd]; exact beq_eq_false_iff_ne.2 hcp
    have hfo : followD P hs r = if askedD r < 0 then [] else (setAt hs (askedD r)).flatMap (joinD hs.length P.funs r) := by
      unfold followD copyD
      rw [if_neg hcp]; simp
    have KA : Hid (∀ wx, Calls Tryz.prog 110 #[.agg #[.string kd, .int .i64 r.a, .int .i64 r.b, .int .i64 r.stmt, av]] wx fun e w' => e = .returned (.int .i64 (askedD r)) ∧ Below wx.heap.size wx w') := fun wx => asked_any r av kd hkd wx
    by_cases hneg : askedD r < 0
    · have HX : Hid (followD P hs r = []) := by show _ = _; rw [hfo, if_pos hneg]
      obtain ⟨q, hq⟩ : ∃ q, q = askedD r := ⟨_, rfl⟩
      rw [← hq] at KA hneg
      clear h hw hrow hask hset hsl hl hcp hkd HFB hfo hq
      go_enter Tryz.func79, Tryz.ntmps79
      go_upto_region 1 with fail
      rw [← hW]
      clear hW
      go_wp2_with fail
      refine (KA.out _).mono ?_
      rintro e w3 ⟨rfl, hB3⟩
      go_wp2_with fail
      refine bodyPost_ret (results_none rfl _ _ _) rfl ?_
      exact ⟨rfl, u, by rw [HX.out, List.append_nil]; exact HF0.out.1.below hB3, HF0.out.2.1.trans (hB3.mono HF0.out.1.size), HF0.out.2.2.1.trans (KE.of_below hB3)⟩
    · rw [if_neg hneg] at hfo
      have hj := hask hneg
      obtain ⟨q, hq⟩ : ∃ q, q = (askedD r).toNat := ⟨_, rfl⟩
      have hqq : askedD r = (q : Int) := by omega
      rw [← hq] at hj
      obtain ⟨b, o, x, rfl, e0, hx⟩ := hrow q hj
      have hsx : setAt hs (askedD r) = hs.getD q [] := by unfold setAt; rw [hq]
      rw [hsx] at hset hsl hfo
      obtain ⟨zs, hzs⟩ : ∃ zs, zs = hs.getD q [] := ⟨_, rfl⟩
      rw [← hzs] at hset hsl hfo hx
      obtain ⟨xa, xc, rfl⟩ := isInts_form hx
      obtain ⟨m, hm⟩ : ∃ m, m = zs.length := ⟨_, rfl⟩
      rw [← hm] at hset hsl e0
      rw [hqq] at KA
      have hw0 := HF0.out.2.2.2.trans HF0.out.2.1
      have HE0 : Hid (∀ wx, Below w0.heap.size w0 wx → wx.cell? ⟨b, o + q, none⟩ = some (.slice xa m xc)) := fun wx hb => cell_keep hb e0
      have HXS : Hid (∀ wx, Below w0.heap.size w0 wx → ∀ j, j < m → ∃ b o, xa = some ⟨b, o, none⟩ ∧ wx.cell? ⟨b, o + j, none⟩ = some (.int .i64 (zs.getD j 0))) := fun wx hb j hj => isInts_at (hx.below hb) j (by omega)
      have HX : Hid (followD P hs r = zs.flatMap (joinD n P.funs r)) := by show _ = _; rw [hfo, HN.out]
      have HLE : Hid (∀ k, (es ++ (zs.take k).flatMap (joinD n P.funs r)).length ≤ 900000) := fun k => by
        have h1 := flat_take_le zs (joinD n P.funs r) k
        rw [← HX.out] at h1
        simp only [List.length_append] at hl ⊢
        omega
      have KJ : Hid (∀ wx k u', k < m → Below w0.heap.size w0 wx → Found wx w0.heap.size fb (es ++ (zs.take k).flatMap (joinD n P.funs r)) u' → Calls Tryz.prog 111 #[.agg #[.string kd, .int .i64 r.a, .int .i64 r.b, .int .i64 r.stmt, av], .int .i64 (n : Int), v2, .int .i64 (zs.getD k 0), joinV fb] wx fun e w' => JoinPost w0 wx fb (es ++ (zs.take k).flatMap (joinD n P.funs r)) (joinD n P.funs r (zs.getD k 0)) e w') := fun wx k u' hk hb hFx => by
        obtain ⟨s1, s2, s3⟩ := hset k hk
        exact joinM_any hFx hb n P.funs v2 hF r av ha kd hkd _ s1 s2 hn s3 hfp (HLE.out k) hl2
      have HTK : Hid (∀ k, k < m → (zs.take (k + 1)).flatMap (joinD n P.funs r) = (zs.take k).flatMap (joinD n P.funs r) ++ joinD n P.funs r (zs.getD k 0)) := fun k hk => flat_take zs 0 _ k (by omega)
      have HML : Hid (m = zs.length) := hm
      have hji : (q : Int) < n := by omega
      obtain ⟨ra, hra⟩ : ∃ z, z = r.a := ⟨_, rfl⟩
      obtain ⟨rb, hrb⟩ : ∃ z, z = r.b := ⟨_, rfl⟩
      obtain ⟨rs, hrs⟩ : ∃ z, z = r.stmt := ⟨_, rfl⟩
      rw [← hra, ← hrb, ← hrs] at hW KA KB KJ ⊢
      rw [← hra] at c1
      rw [← hrb] at c2
      rw [← hrs] at c3
      clear hra hrb hrs h hw hrow hask hset hl hcp hkd hfo hq hqq hsx hzs hm hx e0 hneg ha hF hfp hj HFB
      go_enter Tryz.func79, Tryz.ntmps79
      go_upto_region 1 with fail
      rw [← hW]
      clear hW
      go_wp2_with fail
      refine (KA.out _).mono ?_
      rintro e w3 ⟨rfl, hB3⟩
      have e0 := HE0.out w3 (hw0.trans (hB3.mono HF0.out.1.size))
      have HS3 : Hid (Found w3 w0.heap.size fb es u ∧ Below w0.heap.size w w3 ∧ KE W w3) := ⟨HF0.out.1.below hB3, HF0.out.2.1.trans (hB3.mono HF0.out.1.size), KE.of_below hB3⟩
      clear b1 c0 c1 c2 c3 c4 hB3 hw0
      go_wp2_with fail
      clear e0
      go_loopw [29] (fun t wr => ∃ k : Nat, k ≤ m ∧ t = .int .i64 k ∧ (∃ u', Found wr w0.heap.size fb (es ++ (zs.take k).flatMap (joinD n P.funs r)) u') ∧ Below w0.heap.size w wr ∧ KE W wr) (fun t _ => (m - intOf t).toNat)
      case atStart => exact ⟨0, Nat.zero_le _, rfl, ⟨u, by simpa using HS3.out.1⟩, HS3.out.2.1, HS3.out.2.2⟩
      case round =>
        obtain ⟨k, hk, rfl, ⟨u1, hF1⟩, hwr, hke⟩ := hrel
        have hB0 := HF0.out.2.2.2.trans hwr
        by_cases hlt : k < m
        · obtain ⟨sb, so, rfl, e1⟩ := HXS.out wr hB0 k hlt
          obtain ⟨b1, c0, c1, c2, c3, c4⟩ := KB.out wr hke
          have hki : (k : Int) < m := by omega
          have HJ := KJ.out wr k u1 hlt hB0 hF1
          have hT := HTK.out k hlt
          obtain ⟨z, hz⟩ : ∃ z, z = zs.getD k 0 := ⟨_, rfl⟩
          rw [← hz] at e1 HJ hT
          have HJ' : Hid _ := HJ
          have HT : Hid _ := hT
          clear hF1 hz HJ hT
          go_wp2_with (go_at_call 111; refine Calls.mono HJ'.out ?_; rintro e w2 ⟨rfl, u2, hF2, hb2, hk2⟩)
          go_roundw
          case rel => exact ⟨k + 1, hlt, by go_num, ⟨u2, by rw [HT.out, ← List.append_assoc]; exact hF2⟩, hwr.trans hb2, hke.trans hk2⟩
          case measure => simp [intOf]; omega
        · have hkm : k = m := by omega
          subst hkm
          have hzt : zs.take k = zs := List.take_of_length_le (by rw [HML.out]; exact Nat.le_refl _)
          rw [hzt] at hF1
          have HF1 : Hid (Found wr w0.heap.size fb (es ++ zs.flatMap (joinD n P.funs r)) u1) := hF1
          clear hF1 hzt
          go_wp2_with fail
          refine bodyPost_end (results_none rfl _ _ _) rfl ?_
          exact ⟨rfl, u1, by rw [HX.out]; exact HF1.out, hwr, HF0.out.2.2.1.trans hke⟩
end Go.Proofs.YtimmkenmahagjaaGreatDoor

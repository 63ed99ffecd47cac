/-
  Package cons: enter, Asked, by contracts.
-/
import Derived.Test.YtimmkenmahagjaaGreatDoorCA
import Derived.Test.YtimmkenmahagjaaGreatDoorPZ8
namespace Go.Proofs.YtimmkenmahagjaaGreatDoor
open Go.RowKit Go.Extern.Stop Go.Stop Go.Extern

theorem zip_take (xs ys : List Int) (k : Nat) (h1 : k < xs.length) (h2 : k < ys.length) : (List.zip xs ys).take (k + 1) = (List.zip xs ys).take k ++ [(xs.getD k 0, ys.getD k 0)] := by
  rw [take_snoc (List.zip xs ys) (0, 0) k (by simp; omega)]
  have hz : (List.zip xs ys)[k]? = some (xs[k], ys[k]) := by
    rw [List.getElem?_eq_getElem (by simp; omega)]
    simp
  simp [List.getD, h1, h2, hz]
abbrev funBox (nm : ByteArray) (pv : Value) (ret : Int) : Obj := .cells #[.string nm, pv, .int .i64 ret] 77
abbrev ruleBox (kd : ByteArray) (a b st : Int) (av : Value) : Obj := .cells #[.string kd, .int .i64 a, .int .i64 b, .int .i64 st, av] TRu

set_option maxRecDepth 100000 in
set_option maxHeartbeats 8000000 in
theorem enter_any {w0 w : World} {fb : Nat} {es : List Pair} {u : Value} (h : Found w w0.heap.size fb es u) (hw : Below w0.heap.size w0 w) (f : FunD) (pv : Value) (hp : IsInts w0 pv f.params) (r : RuleD) (av : Value) (ha : IsInts w0 av r.args) (hl : es.length + f.params.length + 1 ≤ 1000000) (hl2 : r.args.length ≤ 1000000) (nm kd : ByteArray) :
    Calls Tryz.prog 135 #[.agg #[.string nm, pv, .int .i64 f.ret], .agg #[.string kd, .int .i64 r.a, .int .i64 r.b, .int .i64 r.stmt, av], joinV fb] w fun e w' => JoinPost w0 w fb es (joinsF f r) e w' := by
  obtain ⟨pa, pc, rfl⟩ := isInts_form hp
  obtain ⟨aa, ac, rfl⟩ := isInts_form ha
  obtain ⟨np, hnp⟩ : ∃ n, n = f.params.length := ⟨_, rfl⟩
  obtain ⟨na, hna⟩ : ∃ n, n = r.args.length := ⟨_, rfl⟩
  obtain ⟨z, hz⟩ : ∃ z, z = f.ret := ⟨_, rfl⟩
  obtain ⟨rb, hrb⟩ : ∃ z, z = r.b := ⟨_, rfl⟩
  have hB := h.size
  have HLN : Hid (np = f.params.length ∧ na = r.args.length ∧ z = f.ret ∧ rb = r.b) := ⟨hnp, hna, hz, hrb⟩
  rw [← hnp] at hp hl ⊢
  rw [← hna] at ha hl2 ⊢
  rw [← hz, ← hrb]
  obtain ⟨W, hW⟩ : ∃ W, W = (w.alloc (funBox nm (.slice pa np pc) z)).alloc (ruleBox kd r.a rb r.stmt (.slice aa na ac)) := ⟨_, rfl⟩
  have hBW : Below w.heap.size w W := by rw [hW]; exact (below1 w _).alloc (by simp) _
  have HFB : Hid (W.heap[w.heap.size]? = some (funBox nm (.slice pa np pc) z) ∧ W.heap[w.heap.size + 1]? = some (ruleBox kd r.a rb r.stmt (.slice aa na ac))) := by
    refine ⟨?_, ?_⟩
    · rw [hW]; exact block_keep (below1 _ _) (heap_new w _)
    · rw [hW]
      have := heap_new (w.alloc (funBox nm (.slice pa np pc) z)) (ruleBox kd r.a rb r.stmt (.slice aa na ac))
      simpa using this
  have c1 : W.cell? ⟨w.heap.size, 1, none⟩ = some (.slice pa np pc) := by rw [Lib.cell_of_heap HFB.out.1]; rfl
  have d4 : W.cell? ⟨w.heap.size + 1, 4, none⟩ = some (.slice aa na ac) := by rw [Lib.cell_of_heap HFB.out.2]; rfl
  have HF : Hid (Found W w0.heap.size fb es u ∧ Below w0.heap.size w W ∧ KE w W ∧ Below w0.heap.size w0 w) := ⟨h.below hBW, hBW.mono hB, KE.of_below hBW, hw⟩
  have HP : Hid (∀ wx, Below w0.heap.size w0 wx → ∀ j, j < np → ∃ b o, pa = some ⟨b, o, none⟩ ∧ wx.cell? ⟨b, o + j, none⟩ = some (.int .i64 (f.params.getD j 0))) := fun wx hwx j hj => isInts_at (hp.below hwx) j (by omega)
  have HA : Hid (∀ wx, Below w0.heap.size w0 wx → ∀ j, j < na → ∃ b o, aa = some ⟨b, o, none⟩ ∧ wx.cell? ⟨b, o + j, none⟩ = some (.int .i64 (r.args.getD j 0))) := fun wx hwx j hj => isInts_at (ha.below hwx) j (by omega)
  clear h hw hp ha hnp hna hz hrb
  by_cases hg : np = na
  · subst hg
    go_enter Tryz.func135, Tryz.ntmps135
    go_upto_region 1 with fail
    rw [← hW]
    clear hW
    go_wp2_with fail
    clear c1 d4
    go_loopw [18] (fun t wr => ∃ k : Nat, k ≤ np ∧ t = .int .i64 k ∧ (∃ u', Found wr w0.heap.size fb (es ++ (List.zip r.args f.params).take k) u') ∧ Below w0.heap.size w wr ∧ KE W wr) (fun t _ => (np - intOf t).toNat)
    case atStart => exact ⟨0, Nat.zero_le _, rfl, ⟨u, by simpa using HF.out.1⟩, HF.out.2.1, KE.refl _⟩
    case round =>
      obtain ⟨k, hk, rfl, ⟨u1, hF⟩, hwr, hke⟩ := hrel
      have hfb := hke _ _ _ _ HFB.out.1 (by decide) (by decide)
      have hrb := hke _ _ _ _ HFB.out.2 (by decide) (by decide)
      have hB0 := HF.out.2.2.2.trans hwr
      by_cases hlt : k < np
      · obtain ⟨b, o, rfl, e0⟩ := HP.out wr hB0 k hlt
        obtain ⟨b2, o2, rfl, e1⟩ := HA.out wr hB0 k hlt
        have d4 : wr.cell? ⟨w.heap.size + 1, 4, none⟩ = some (.slice (some ⟨b2, o2, none⟩) np ac) := by rw [Lib.cell_of_heap hrb]; rfl
        have hki : (k : Int) < np := by omega
        have hel : (es ++ (List.zip r.args f.params).take k).length ≤ 1000000 := by simp; omega
        have HJ : Hid (∀ x y, Calls Tryz.prog 80 #[.int .i64 x, .int .i64 y, .pointer (some ⟨fb, 0, none⟩)] wr fun e w' => JoinPost w0 wr fb (es ++ (List.zip r.args f.params).take k) [(x, y)] e w') := fun x y => join_any hF hel x y
        obtain ⟨x, hx⟩ : ∃ x, x = r.args.getD k 0 := ⟨_, rfl⟩
        obtain ⟨y, hy⟩ : ∃ y, y = f.params.getD k 0 := ⟨_, rfl⟩
        have HZ : Hid ((List.zip r.args f.params).take (k + 1) = (List.zip r.args f.params).take k ++ [(x, y)]) := by
          show _ = _
          rw [zip_take _ _ k (by rw [← HLN.out.2.1]; exact hlt) (by rw [← HLN.out.1]; exact hlt), hx, hy]
        rw [← hy] at e0
        rw [← hx] at e1
        clear hF hx hy hfb hrb hel
        go_wp2_with (go_at_call 80; refine (HJ.out _ _).mono ?_; rintro e w2 ⟨rfl, u2, hF2, hb2, hk2⟩)
        go_roundw
        case rel => exact ⟨k + 1, hlt, by go_num, ⟨u2, by rw [HZ.out, ← List.append_assoc]; exact hF2⟩, hwr.trans hb2, hke.trans hk2⟩
        case measure => simp [intOf]; omega
      · have hkn : k = np := by omega
        subst hkn
        have b2 : wr.cell? ⟨w.heap.size, 2, none⟩ = some (.int .i64 z) := by rw [Lib.cell_of_heap hfb]; rfl
        have d2 : wr.cell? ⟨w.heap.size + 1, 2, none⟩ = some (.int .i64 rb) := by rw [Lib.cell_of_heap hrb]; rfl
        have hzt : (List.zip r.args f.params).take k = List.zip r.args f.params := List.take_of_length_le (by simp; have := HLN.out.1; have := HLN.out.2.1; omega)
        rw [hzt] at hF
        have hel : (es ++ List.zip r.args f.params).length ≤ 1000000 := by simp; have := HLN.out.1; omega
        have HJ : Hid (Calls Tryz.prog 80 #[.int .i64 z, .int .i64 rb, .pointer (some ⟨fb, 0, none⟩)] wr fun e w' => JoinPost w0 wr fb (es ++ List.zip r.args f.params) [(z, rb)] e w') := join_any hF hel z rb
        have HS : Hid (joinsF f r = List.zip r.args f.params ++ [(z, rb)]) := by
          show _ = _
          unfold joinsF
          rw [if_pos (by rw [← HLN.out.1, ← HLN.out.2.1]), HLN.out.2.2.1, HLN.out.2.2.2]
        clear hF hel hzt hfb hrb
        go_wp2_with (go_at_call 80; refine HJ.out.mono ?_; rintro e w2 ⟨rfl, u2, hF2, hb2, hk2⟩)
        refine bodyPost_end (results_none rfl _ _ _) rfl ?_
        exact ⟨rfl, u2, by rw [HS.out, ← List.append_assoc]; exact hF2, hwr.trans hb2, (HF.out.2.2.1.trans hke).trans hk2⟩
  · have hg' : ¬ ((np : Int) = (na : Int)) := by omega
    have HS : Hid (joinsF f r = []) := by
      show _ = _
      unfold joinsF
      rw [if_neg (by rw [← HLN.out.1, ← HLN.out.2.1]; exact hg)]
    go_enter Tryz.func135, Tryz.ntmps135
    go_upto_region 1 with fail
    rw [← hW]
    clear hW
    go_wp2_with fail
    refine bodyPost_ret (results_none rfl _ _ _) rfl ?_
    exact ⟨rfl, u, by rw [HS.out, List.append_nil]; exact HF.out.1, HF.out.2.1, HF.out.2.2.1⟩

/-- Of a rule's kind: load, call, store, or another one. -/
theorem rule_kinds (K : Bs) : (K = kLoad ∧ (K == [108, 111, 97, 100]) = true ∧ (K == [99, 97, 108, 108]) = false ∧ (K == [115, 116, 111, 114, 101]) = false) ∨
    (K = kCall ∧ (K == [108, 111, 97, 100]) = false ∧ (K == [99, 97, 108, 108]) = true ∧ (K == [115, 116, 111, 114, 101]) = false) ∨
    (K = kStore ∧ (K == [108, 111, 97, 100]) = false ∧ (K == [99, 97, 108, 108]) = false ∧ (K == [115, 116, 111, 114, 101]) = true) ∨
    ((K ≠ kLoad ∧ K ≠ kCall ∧ K ≠ kStore) ∧ (K == [108, 111, 97, 100]) = false ∧ (K == [99, 97, 108, 108]) = false ∧ (K == [115, 116, 111, 114, 101]) = false) := by
  by_cases h1 : K = kLoad
  · subst h1; exact Or.inl ⟨rfl, by decide, by decide, by decide⟩
  by_cases h2 : K = kCall
  · subst h2; exact Or.inr (Or.inl ⟨rfl, by decide, by decide, by decide⟩)
  by_cases h3 : K = kStore
  · subst h3; exact Or.inr (Or.inr (Or.inl ⟨rfl, by decide, by decide, by decide⟩))
  · exact Or.inr (Or.inr (Or.inr ⟨⟨h1, h2, h3⟩, beq_eq_false_iff_ne.2 h1, beq_eq_false_iff_ne.2 h2, beq_eq_false_iff_ne.2 h3⟩))

set_option maxHeartbeats 4000000 in
theorem asked_any (r : RuleD) (av : Value) (kd : ByteArray) (hkd : kd.toList = r.kind) (w : World) :
    Calls Tryz.prog 110 #[.agg #[.string kd, .int .i64 r.a, .int .i64 r.b, .int .i64 r.stmt, av]] w fun e w' => e = .returned (.int .i64 (askedD r)) ∧ Below w.heap.size w w' := by
  have hk := rule_kinds r.kind
  rw [← hkd] at hk
  obtain ⟨R, hR⟩ : ∃ R, R = askedD r := ⟨_, rfl⟩
  rw [← hR]
  have HR : Hid (R = askedD r ∧ kd.toList = r.kind) := ⟨hR, hkd⟩
  clear hR hkd
  rcases hk with ⟨hK, g1, g2, g3⟩ | ⟨hK, g1, g2, g3⟩ | ⟨hK, g1, g2, g3⟩ | ⟨hK, g1, g2, g3⟩
  · have HX : Hid (R = r.a) := by show R = _; rw [HR.out.1]; unfold askedD; rw [if_pos (by rw [← HR.out.2]; exact hK)]
    clear hK
    go_enter Tryz.func110, Tryz.ntmps110
    go_wp2_with fail
    go_ret
    exact ⟨by rw [HX.out]; first | done | rfl, below1 w _⟩
  · have HX : Hid (R = r.a) := by
      show R = _; rw [HR.out.1]; unfold askedD
      rw [if_neg (by rw [← HR.out.2, hK]; decide), if_pos (by rw [← HR.out.2]; exact hK)]
    clear hK
    go_enter Tryz.func110, Tryz.ntmps110
    go_wp2_with fail
    go_ret
    exact ⟨by rw [HX.out]; first | done | rfl, below1 w _⟩
  · have HX : Hid (R = r.b) := by
      show R = _; rw [HR.out.1]; unfold askedD
      rw [if_neg (by rw [← HR.out.2, hK]; decide), if_neg (by rw [← HR.out.2, hK]; decide), if_pos (by rw [← HR.out.2]; exact hK)]
    clear hK
    go_enter Tryz.func110, Tryz.ntmps110
    go_wp2_with fail
    go_ret
    exact ⟨by rw [HX.out]; first | done | rfl, below1 w _⟩
  · have HX : Hid (R = -1) := by
      show R = _; rw [HR.out.1]; unfold askedD
      rw [if_neg (by rw [← HR.out.2]; exact hK.1), if_neg (by rw [← HR.out.2]; exact hK.2.1), if_neg (by rw [← HR.out.2]; exact hK.2.2)]
    clear hK
    go_enter Tryz.func110, Tryz.ntmps110
    go_wp2_with fail
    go_ret
    exact ⟨by rw [HX.out]; first | done | rfl, below1 w _⟩
end Go.Proofs.YtimmkenmahagjaaGreatDoor

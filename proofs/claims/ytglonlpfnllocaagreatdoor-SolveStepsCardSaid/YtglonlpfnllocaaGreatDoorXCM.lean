/-
  Package cons: enter, Asked, by contracts.
-/
import Derived.Test.YtglonlpfnllocaaGreatDoorCAM
import Derived.Test.YtglonlpfnllocaaGreatDoorPZ8M
import Derived.Deep.RegionHeld3
namespace Go.Proofs.YtglonlpfnllocaaGreatDoor
open Go.RowKit Go.Extern.Stop Go.Stop Go.Extern

theorem zip_take (xs ys : List Int) (k : Nat) (h1 : k < xs.length) (h2 : k < ys.length) : (List.zip xs ys).take (k + 1) = (List.zip xs ys).take k ++ [(xs.getD k 0, ys.getD k 0)] := by
  rw [take_snoc (List.zip xs ys) (0, 0) k (by simp; omega)]
  have hz : (List.zip xs ys)[k]? = some (xs[k], ys[k]) := by
    rw [List.getElem?_eq_getElem (by simp; omega)]
    simp
  simp [List.getD, h1, h2, hz]
abbrev funBox (nm : ByteArray) (pv : Value) (ret : Int) : Obj := .cells #[.string nm, pv, .int .i64 ret] 60
abbrev ruleBox (kd : ByteArray) (a b st : Int) (av : Value) : Obj := .cells #[.string kd, .int .i64 a, .int .i64 b, .int .i64 st, av] TRu

set_option maxRecDepth 100000 in
set_option maxHeartbeats 8000000 in
theorem enter_any {w0 w : World} {fb : Nat} {es : List Pair} {u : Value} (h : Found w w0.heap.size fb es u) (hw : Below w0.heap.size w0 w) (f : FunD) (pv : Value) (hp : IsInts w0 pv f.params) (r : RuleD) (av : Value) (ha : IsInts w0 av r.args) (hl : es.length + f.params.length + 1 ≤ 1000000) (hl2 : r.args.length ≤ 1000000) (nm kd : ByteArray) :
    Calls Tryz.prog 90 #[.agg #[.string nm, pv, .int .i64 f.ret], .agg #[.string kd, .int .i64 r.a, .int .i64 r.b, .int .i64 r.stmt, av], joinV fb] w fun e w' => JoinPost w0 w fb es (joinsF f r) e w' := by
  obtain ⟨pa, pc, rfl⟩ := isInts_form hp
  obtain ⟨aa, ac, rfl⟩ := isInts_form ha
  obtain ⟨np, hnp⟩ : ∃ n, n = f.params.length := ⟨_, rfl⟩
  obtain ⟨na, hna⟩ : ∃ n, n = r.args.length := ⟨_, rfl⟩
  obtain ⟨z, hz⟩ : ∃ z, z = f.ret := ⟨_, rfl⟩
  obtain ⟨rb, hrb⟩ : ∃ z, z = r.b := ⟨_, rfl⟩
  have hB := h.size
  have HLN : Hid (np = f.params.length ∧ na = r.args.length ∧ z = f.ret ∧ rb = r.b) := ⟨hnp, hna, hz, hrb⟩
  rw [← hnp] at hp hl ⊢
  rw [← hna] at ha hl2 ⊢
  rw [← hz, ← hrb]
  obtain ⟨W, hW⟩ : ∃ W, W = (w.alloc (funBox nm (.slice pa np pc) z)).alloc (ruleBox kd r.a rb r.stmt (.slice aa na ac)) := ⟨_, rfl⟩
  have hBW : Below w.heap.size w W := by rw [hW]; exact (below1 w _).alloc (by simp) _
  have HFB : Hid (W.heap[w.heap.size]? = some (funBox nm (.slice pa np pc) z) ∧ W.heap[w.heap.size + 1]? = some (ruleBox kd r.a rb r.stmt (.slice aa na ac))) := by
    refine ⟨?_, ?_⟩
    · rw [hW]; exact block_keep (below1 _ _) (heap_new w _)
    · rw [hW]
      have := heap_new (w.alloc (funBox nm (.slice pa np pc) z)) (ruleBox kd r.a rb r.stmt (.slice aa na ac))
      simpa using this
  have c1 : W.cell? ⟨w.heap.size, 1, none⟩ = some (.slice pa np pc) := by rw [Lib.cell_of_heap HFB.out.1]; rfl
  have d4 : W.cell? ⟨w.heap.size + 1, 4, none⟩ = some (.slice aa na ac) := by rw [Lib.cell_of_heap HFB.out.2]; rfl
  have HF : Hid (Found W w0.heap.size fb es u ∧ Below w0.heap.size w W ∧ KE w W ∧ Below w0.heap.size w0 w) := ⟨h.below hBW, hBW.mono hB, KE.of_below hBW, hw⟩
  have HP : Hid (∀ wx, Below w0.heap.size w0 wx → ∀ j, j < np → ∃ b o, pa = some ⟨b, o, none⟩ ∧ wx.cell? ⟨b, o + j, none⟩ = some (.int .i64 (f.params.getD j 0))) := fun wx hwx j hj => isInts_at (hp.below hwx) j (by omega)
  have HA : Hid (∀ wx, Below w0.heap.size w0 wx → ∀ j, j < na → ∃ b o, aa = some ⟨b, o, none⟩ ∧ wx.cell? ⟨b, o + j, none⟩ = some (.int .i64 (r.args.getD j 0))) := fun wx hwx j hj => isInts_at (ha.below hwx) j (by omega)
  clear h hw hp ha hnp hna hz hrb
  by_cases hg : np = na
  · subst hg
    go_enter Tryz.func90, Tryz.ntmps90
    go_upto_region 1 with fail
    rw [← hW]
    clear hW
    go_wp2_with fail
    clear c1 d4
    go_loopw [18] (fun t wr => ∃ k : Nat, k ≤ np ∧ t = .int .i64 k ∧ (∃ u', Found wr w0.heap.size fb (es ++ (List.zip r.args f.params).take k) u') ∧ Below w0.heap.size w wr ∧ KE W wr) (fun t _ => (np - intOf t).toNat)
    case atStart => exact ⟨0, Nat.zero_le _, rfl, ⟨u, by simpa using HF.out.1⟩, HF.out.2.1, KE.refl _⟩
    case round =>
      obtain ⟨k, hk, rfl, ⟨u1, hF⟩, hwr, hke⟩ := hrel
      have hfb := hke _ _ _ _ HFB.out.1 (by decide) (by decide)
      have hrb := hke _ _ _ _ HFB.out.2 (by decide) (by decide)
      have hB0 := HF.out.2.2.2.trans hwr
      by_cases hlt : k < np
      · obtain ⟨b, o, rfl, e0⟩ := HP.out wr hB0 k hlt
        obtain ⟨b2, o2, rfl, e1⟩ := HA.out wr hB0 k hlt
        have d4 : wr.cell? ⟨w.heap.size + 1, 4, none⟩ = some (.slice (some ⟨b2, o2, none⟩) np ac) := by rw [Lib.cell_of_heap hrb]; rfl
        have hki : (k : Int) < np := by omega
        have hel : (es ++ (List.zip r.args f.params).take k).length ≤ 1000000 := by simp; omega
        have HJ : Hid (∀ x y, Calls Tryz.prog 121 #[.int .i64 x, .int .i64 y, .pointer (some ⟨fb, 0, none⟩)] wr fun e w' => JoinPost w0 wr fb (es ++ (List.zip r.args f.params).take k) [(x, y)] e w') := fun x y => join_any hF hel x y
        obtain ⟨x, hx⟩ : ∃ x, x = r.args.getD k 0 := ⟨_, rfl⟩
        obtain ⟨y, hy⟩ : ∃ y, y = f.params.getD k 0 := ⟨_, rfl⟩
        have HZ : Hid ((List.zip r.args f.params).take (k + 1) = (List.zip r.args f.params).take k ++ [(x, y)]) := by
          show _ = _
          rw [zip_take _ _ k (by rw [← HLN.out.2.1]; exact hlt) (by rw [← HLN.out.1]; exact hlt), hx, hy]
        rw [← hy] at e0
        rw [← hx] at e1
        clear hF hx hy hfb hrb hel
        go_wp2_with (go_at_call 121; refine (HJ.out _ _).mono ?_; rintro e w2 ⟨rfl, u2, hF2, hb2, hk2⟩)
        go_roundw
        case rel => exact ⟨k + 1, hlt, by go_num, ⟨u2, by rw [HZ.out, ← List.append_assoc]; exact hF2⟩, hwr.trans hb2, hke.trans hk2⟩
        case measure => simp [intOf]; omega
      · have hkn : k = np := by omega
        subst hkn
        have b2 : wr.cell? ⟨w.heap.size, 2, none⟩ = some (.int .i64 z) := by rw [Lib.cell_of_heap hfb]; rfl
        have d2 : wr.cell? ⟨w.heap.size + 1, 2, none⟩ = some (.int .i64 rb) := by rw [Lib.cell_of_heap hrb]; rfl
        have hzt : (List.zip r.args f.params).take k = List.zip r.args f.params := List.take_of_length_le (by simp; have := HLN.out.1; have := HLN.out.2.1; omega)
        rw [hzt] at hF
        have hel : (es ++ List.zip r.args f.params).length ≤ 1000000 := by simp; have := HLN.out.1; omega
        have HJ : Hid (Calls Tryz.prog 121 #[.int .i64 z, .int .i64 rb, .pointer (some ⟨fb, 0, none⟩)] wr fun e w' => JoinPost w0 wr fb (es ++ List.zip r.args f.params) [(z, rb)] e w') := join_any hF hel z rb
        have HS : Hid (joinsF f r = List.zip r.args f.params ++ [(z, rb)]) := by
          show _ = _
          unfold joinsF
          rw [if_pos (by rw [← HLN.out.1, ← HLN.out.2.1]), HLN.out.2.2.1, HLN.out.2.2.2]
        clear hF hel hzt hfb hrb
        go_wp2_with (go_at_call 121; refine HJ.out.mono ?_; rintro e w2 ⟨rfl, u2, hF2, hb2, hk2⟩)
        refine bodyPost_end (results_none rfl _ _ _) rfl ?_
        exact ⟨rfl, u2, by rw [HS.out, ← List.append_assoc]; exact hF2, hwr.trans hb2, (HF.out.2.2.1.trans hke).trans hk2⟩
  · have hg' : ¬ ((np : Int) = (na : Int)) := by omega
    have HS : Hid (joinsF f r = []) := by
      show _ = _
      unfold joinsF
      rw [if_neg (by rw [← HLN.out.1, ← HLN.out.2.1]; exact hg)]
    go_enter Tryz.func90, Tryz.ntmps90
    go_upto_region 1 with fail
    rw [← hW]
    clear hW
    go_wp2_with fail
    refine bodyPost_ret (results_none rfl _ _ _) rfl ?_
    exact ⟨rfl, u, by rw [HS.out, List.append_nil]; exact HF.out.1, HF.out.2.1, HF.out.2.2.1⟩

/-- Of a rule's kind: load, call, store, or another one. -/
theorem rule_kinds (K : Bs) : (K = kLoad ∧ (K == [108, 111, 97, 100]) = true ∧ (K == [99, 97, 108, 108]) = false ∧ (K == [115, 116, 111, 114, 101]) = false) ∨
    (K = kCall ∧ (K == [108, 111, 97, 100]) = false ∧ (K == [99, 97, 108, 108]) = true ∧ (K == [115, 116, 111, 114, 101]) = false) ∨
    (K = kStore ∧ (K == [108, 111, 97, 100]) = false ∧ (K == [99, 97, 108, 108]) = false ∧ (K == [115, 116, 111, 114, 101]) = true) ∨
    ((K ≠ kLoad ∧ K ≠ kCall ∧ K ≠ kStore) ∧ (K == [108, 111, 97, 100]) = false ∧ (K == [99, 97, 108, 108]) = false ∧ (K == [115, 116, 111, 114, 101]) = false) := by
  by_cases h1 : K = kLoad
  · subst h1; exact Or.inl ⟨rfl, by decide, by decide, by decide⟩
  by_cases h2 : K = kCall
  · subst h2; exact Or.inr (Or.inl ⟨rfl, by decide, by decide, by decide⟩)
  by_cases h3 : K = kStore
  · subst h3; exact Or.inr (Or.inr (Or.inl ⟨rfl, by decide, by decide, by decide⟩))
  · exact Or.inr (Or.inr (Or.inr ⟨⟨h1, h2, h3⟩, beq_eq_false_iff_ne.2 h1, beq_eq_false_iff_ne.2 h2, beq_eq_false_iff_ne.2 h3⟩))

set_option maxHeartbeats 4000000 in
theorem asked_any (r : RuleD) (av : Value) (kd : ByteArray) (hkd : kd.toList = r.kind) (w : World) :
    Calls Tryz.prog 63 #[.agg #[.string kd, .int .i64 r.a, .int .i64 r.b, .int .i64 r.stmt, av]] w fun e w' => e = .returned (.int .i64 (askedD r)) ∧ Below w.heap.size w w' := by
  have hk := rule_kinds r.kind
  rw [← hkd] at hk
  obtain ⟨R, hR⟩ : ∃ R, R = askedD r := ⟨_, rfl⟩
  rw [← hR]
  have HR : Hid (R = askedD r ∧ kd.toList = r.kind) := ⟨hR, hkd⟩
  clear hR hkd
  rcases hk with ⟨hK, g1, g2, g3⟩ | ⟨hK, g1, g2, g3⟩ | ⟨hK, g1, g2, g3⟩ | ⟨hK, g1, g2, g3⟩
  · have HX : Hid (R = r.a) := by show R = _; rw [HR.out.1]; unfold askedD; rw [if_pos (by rw [← HR.out.2]; exact hK)]
    clear hK
    go_enter Tryz.func63, Tryz.ntmps63
    go_wp2_with fail
    go_ret
    exact ⟨by rw [HX.out]; first | done | rfl, below1 w _⟩
  · have HX : Hid (R = r.a) := by
      show R = _; rw [HR.out.1]; unfold askedD
      rw [if_neg (by rw [← HR.out.2, hK]; decide), if_pos (by rw [← HR.out.2]; exact hK)]
    clear hK
    go_enter Tryz.func63, Tryz.ntmps63
    go_wp2_with fail
    go_ret
    exact ⟨by rw [HX.out]; first | done | rfl, below1 w _⟩
  · have HX : Hid (R = r.b) := by
      show R = _; rw [HR.out.1]; unfold askedD
      rw [if_neg (by rw [← HR.out.2, hK]; decide), if_neg (by rw [← HR.out.2, hK]; decide), if_pos (by rw [← HR.out.2]; exact hK)]
    clear hK
    go_enter Tryz.func63, Tryz.ntmps63
    go_wp2_with fail
    go_ret
    exact ⟨by rw [HX.out]; first | done | rfl, below1 w _⟩
  · have HX : Hid (R = -1) := by
      show R = _; rw [HR.out.1]; unfold askedD
      rw [if_neg (by rw [← HR.out.2]; exact hK.1), if_neg (by rw [← HR.out.2]; exact hK.2.1), if_neg (by rw [← HR.out.2]; exact hK.2.2)]
    clear hK
    go_enter Tryz.func63, Tryz.ntmps63
    go_wp2_with fail
    go_ret
    exact ⟨by rw [HX.out]; first | done | rfl, below1 w _⟩
end Go.Proofs.YtglonlpfnllocaaGreatDoor

/-
  Package cons: (Rule).Join, by a contract.
-/
namespace Go.Proofs.YtglonlpfnllocaaGreatDoor
open Go.RowKit Go.Extern.Stop Go.Stop Go.Extern

theorem below_alF {B : Nat} {w0 w : World} (hB : B ≤ w.heap.size) (h : Below B w0 w) (o : Obj) : Below B w0 (w.alloc o) := h.alloc hB o
set_option maxRecDepth 100000 in
set_option maxHeartbeats 8000000 in
theorem joinM_any {w0 w : World} {fb : Nat} {es : List Pair} {u : Value} (h : Found w w0.heap.size fb es u) (hw : Below w0.heap.size w0 w) (n : Nat) (fs : List FunD) (fv : Value) (hFn : IsFuns w0 fv fs) (r : RuleD) (av : Value) (ha : IsInts w0 av r.args) (kd : ByteArray) (hkd : kd.toList = r.kind) (o : Int) (ho0 : 0 ≤ o) (ho1 : o ≤ 1000000) (hn : n ≤ 1000000)
    (hoc : r.kind = kCall → ¬ o < (n : Int) → (o - n).toNat < fs.length) (hfp : ∀ i, i < fs.length → (fs.getD i default).params.length ≤ 1000) (hl : es.length ≤ 900000) (hl2 : r.args.length ≤ 1000000) :
    Calls Tryz.prog 64 #[.agg #[.string kd, .int .i64 r.a, .int .i64 r.b, .int .i64 r.stmt, av], .int .i64 (n : Int), fv, .int .i64 o, joinV fb] w fun e w' => JoinPost w0 w fb es (joinD n fs r o) e w' := by
  have hB := h.size
  have hk := rule_kinds r.kind
  rw [← hkd] at hk
  obtain ⟨ra, hra⟩ : ∃ z, z = r.a := ⟨_, rfl⟩
  obtain ⟨rb, hrb⟩ : ∃ z, z = r.b := ⟨_, rfl⟩
  have HLN : Hid (ra = r.a ∧ rb = r.b) := ⟨hra, hrb⟩
  have HRK : Hid (kd.toList = r.kind) := hkd
  rw [← hra, ← hrb]
  obtain ⟨W, hW⟩ : ∃ W, W = w.alloc (ruleBox kd ra rb r.stmt av) := ⟨_, rfl⟩
  have hBW : Below w.heap.size w W := by rw [hW]; exact below1 w _
  have HFB : Hid (W.heap[w.heap.size]? = some (ruleBox kd ra rb r.stmt av)) := by show _ = _; rw [hW]; exact heap_new w _
  have c0 : W.cell? ⟨w.heap.size, 0, none⟩ = some (.string kd) := by rw [Lib.cell_of_heap HFB.out]; rfl
  have c1 : W.cell? ⟨w.heap.size, 1, none⟩ = some (.int .i64 ra) := by rw [Lib.cell_of_heap HFB.out]; rfl
  have c2 : W.cell? ⟨w.heap.size, 2, none⟩ = some (.int .i64 rb) := by rw [Lib.cell_of_heap HFB.out]; rfl
  have c3 : W.cell? ⟨w.heap.size, 3, none⟩ = some (.int .i64 r.stmt) := by rw [Lib.cell_of_heap HFB.out]; rfl
  have c4 : W.cell? ⟨w.heap.size, 4, none⟩ = some av := by rw [Lib.cell_of_heap HFB.out]; rfl
  have HF : Hid (Found W w0.heap.size fb es u ∧ Below w0.heap.size w W ∧ KE w W ∧ Below w0.heap.size w0 w) := ⟨h.below hBW, hBW.mono hB, KE.of_below hBW, hw⟩
  clear h hw hra hrb hkd
  rcases hk with ⟨hK, g1, g2, g3⟩ | ⟨hK, g1, g2, g3⟩ | ⟨hK, g1, g2, g3⟩ | ⟨hK, g1, g2, g3⟩
  · by_cases hlt : o < (n : Int)
    · have HX : Hid (joinD n fs r o = [(o, rb)]) := by
        show _ = _
        unfold joinD
        rw [HRK.out] at hK
        rw [if_pos hK, if_pos hlt, HLN.out.2]
      clear hK
      have HJ : Hid (Calls Tryz.prog 121 #[.int .i64 o, .int .i64 rb, .pointer (some ⟨fb, 0, none⟩)] W fun e w' => JoinPost w0 W fb es [(o, rb)] e w') := join_any HF.out.1 (by omega) o rb
      go_enter Tryz.func64, Tryz.ntmps64
      go_upto_region 1 with fail
      rw [← hW]
      clear hW
      go_wp2_with (go_at_call 121; refine HJ.out.mono ?_; rintro e w2 ⟨rfl, u2, hF2, hb2, hk2⟩)
      refine bodyPost_end (results_none rfl _ _ _) rfl ?_
      exact ⟨rfl, u2, by rw [HX.out]; exact hF2, HF.out.2.1.trans hb2, HF.out.2.2.1.trans hk2⟩
    · have HX : Hid (joinD n fs r o = []) := by
        show _ = _
        unfold joinD
        rw [HRK.out] at hK
        rw [if_pos hK, if_neg hlt]
      clear hK
      go_enter Tryz.func64, Tryz.ntmps64
      go_upto_region 1 with fail
      rw [← hW]
      clear hW
      go_wp2_with fail
      refine bodyPost_end (results_none rfl _ _ _) rfl ?_
      exact ⟨rfl, u, by rw [HX.out, List.append_nil]; exact HF.out.1, HF.out.2.1, HF.out.2.2.1⟩
  · by_cases hlt : o < (n : Int)
    · have HX : Hid (joinD n fs r o = []) := by
        show _ = _
        unfold joinD
        rw [HRK.out] at hK
        rw [if_neg (by rw [hK]; decide), if_neg (by rw [hK]; decide), if_pos hK, if_pos hlt]
      clear hK
      go_enter Tryz.func64, Tryz.ntmps64
      go_upto_region 1 with fail
      rw [← hW]
      clear hW
      go_wp2_with fail
      refine bodyPost_end (results_none rfl _ _ _) rfl ?_
      exact ⟨rfl, u, by rw [HX.out, List.append_nil]; exact HF.out.1, HF.out.2.1, HF.out.2.2.1⟩
    · have hK' := hK
      rw [HRK.out] at hK'
      have hi := hoc hK' hlt
      obtain ⟨i, hie⟩ : ∃ i, i = (o - n).toNat := ⟨_, rfl⟩
      rw [← hie] at hi
      have hoi : o = (n : Int) + (i : Int) := by omega
      obtain ⟨f, hfe⟩ : ∃ f, f = fs.getD i default := ⟨_, rfl⟩
      have HX : Hid (joinD n fs r o = joinsF f r) := by
        show _ = _
        unfold joinD
        rw [if_neg (by rw [hK']; decide), if_neg (by rw [hK']; decide), if_pos hK', if_neg hlt, ← hie, hfe]
      obtain ⟨fa, fc, rfl, -, hfs⟩ := hFn
      obtain ⟨fbk, fo, rfl, pv, q0, q1, qp, q2⟩ := hfs i hi
      obtain ⟨hpi, pa, pc, rfl, -⟩ := qp
      have hfpi := hfp i hi
      rw [← hfe] at q0 q1 q2 hpi hfpi
      have KEn : Hid (∀ wx, Below w0.heap.size W wx → KE W wx → Found wx w0.heap.size fb es u → Calls Tryz.prog 90 #[.agg #[.string (S f.name), .slice pa f.params.length pc, .int .i64 f.ret], .agg #[.string kd, .int .i64 ra, .int .i64 rb, .int .i64 r.stmt, av], joinV fb] wx fun e w' => e = .returned (.tuple #[]) ∧ ∃ u', Found w' w0.heap.size fb (es ++ joinsF f r) u' ∧ Below w0.heap.size W w' ∧ KE W w') := fun wx hb hk hFx => by
        have := enter_any hFx ((HF.out.2.2.2.trans HF.out.2.1).trans hb) f _ hpi r av ha (by omega) hl2 (S f.name) kd
        rw [← HLN.out.1, ← HLN.out.2] at this
        exact this.mono fun e w' ⟨r1, u', r2, r3, r4⟩ => ⟨r1, u', r2, hb.trans r3, hk.trans r4⟩
      have hBw0 := HF.out.2.2.2.trans HF.out.2.1
      replace q0 := cell_keep hBw0 q0
      replace q1 := cell_keep hBw0 q1
      replace q2 := cell_keep hBw0 q2
      obtain ⟨nm, hnm⟩ : ∃ t, t = S f.name := ⟨_, rfl⟩
      obtain ⟨np, hnp⟩ : ∃ t, t = f.params.length := ⟨_, rfl⟩
      obtain ⟨z, hz⟩ : ∃ t, t = f.ret := ⟨_, rfl⟩
      obtain ⟨n2, hn2⟩ : ∃ t, t = fs.length := ⟨_, rfl⟩
      rw [← hnm] at q0 KEn
      rw [← hnp] at q1 KEn
      rw [← hz] at q2 KEn
      rw [← hn2]
      have hii : (i : Int) < n2 := by omega
      have hi0 : (0 : Int) ≤ i := by omega
      have hwr : IntKind.i64.wrap (o - (n : Int)) = (i : Int) := by rw [IntKind.wrap_i64]; omega
      have hox : ¬ o < (n : Int) := hlt
      have KX : Hid (∀ wx, Below w0.heap.size W wx → KE W wx → wx.cell? ⟨w.heap.size, 0, none⟩ = some (.string kd) ∧ wx.cell? ⟨w.heap.size, 1, none⟩ = some (.int .i64 ra) ∧ wx.cell? ⟨w.heap.size, 2, none⟩ = some (.int .i64 rb) ∧ wx.cell? ⟨w.heap.size, 3, none⟩ = some (.int .i64 r.stmt) ∧ wx.cell? ⟨w.heap.size, 4, none⟩ = some av ∧ wx.cell? ⟨fbk, fo + i * 3, none⟩ = some (.string nm) ∧ wx.cell? ⟨fbk, fo + i * 3 + 1, none⟩ = some (.slice pa np pc) ∧ wx.cell? ⟨fbk, fo + i * 3 + 2, none⟩ = some (.int .i64 z)) := fun wx hb hk => by
        have hx := hk _ _ _ _ HFB.out (by decide) (by decide)
        have h0 := hBw0.trans hb
        obtain ⟨b', o', e', pv', r0, r1, -, r2⟩ := hfs i hi
        cases e'
        rw [← hfe] at r0 r2
        refine ⟨?_, ?_, ?_, ?_, ?_, ?_, ?_, ?_⟩
        · rw [Lib.cell_of_heap hx]; rfl
        · rw [Lib.cell_of_heap hx]; rfl
        · rw [Lib.cell_of_heap hx]; rfl
        · rw [Lib.cell_of_heap hx]; rfl
        · rw [Lib.cell_of_heap hx]; rfl
        · rw [hnm]; exact cell_keep h0 r0
        · have e1 := cell_keep hBw0 r1
          rw [q1] at e1
          have := cell_keep h0 r1
          rw [← e1] at this
          exact this
        · rw [hz]; exact cell_keep h0 r2
      clear hoi
      clear hfs hK hK' hfe hnm hnp hz hn2 hpi hfpi q0 q1 q2 hoc hfp ha hie hi
      go_enter Tryz.func64, Tryz.ntmps64
      go_upto_region 1 with fail
      rw [← hW]
      clear hW
      go_upto_region 7 with fail
      go_region_held3 (fun wx => wx.cell? ⟨w.heap.size, 0, none⟩ = some (.string kd) ∧ wx.cell? ⟨w.heap.size, 1, none⟩ = some (.int .i64 ra) ∧ wx.cell? ⟨w.heap.size, 2, none⟩ = some (.int .i64 rb) ∧ wx.cell? ⟨w.heap.size, 3, none⟩ = some (.int .i64 r.stmt) ∧ wx.cell? ⟨w.heap.size, 4, none⟩ = some av ∧ wx.cell? ⟨fbk, fo + i * 3, none⟩ = some (.string nm) ∧ wx.cell? ⟨fbk, fo + i * 3 + 1, none⟩ = some (.slice pa np pc) ∧ wx.cell? ⟨fbk, fo + i * 3 + 2, none⟩ = some (.int .i64 z))
        ((go_split_ands; first | exact KX.out _ (Below.refl _ _) (KE.refl _) | exact KX.out _ (Below.refl _ _).drew (KE.refl _).drew | exact KX.out _ hb2 hk2 | exact KX.out _ hb2.drew hk2.drew))
        (first | (go_at_call 90; refine (KEn.out _ ?_ ?_ ?_).mono ?_; (first | exact Below.refl _ _ | exact (Below.refl _ _).drew); (first | exact KE.refl _ | exact (KE.refl _).drew); (first | exact HF.out.1 | exact HF.out.1.below (Below.refl _ _).drew); rintro e w2 ⟨rfl, u2, hF2, hb2, hk2⟩))
      go_wp2_with fail
      refine bodyPost_end (results_none rfl _ _ _) rfl ?_
      first
        | exact ⟨rfl, u2, by rw [HX.out]; exact hF2, HF.out.2.1.trans hb2, HF.out.2.2.1.trans hk2⟩
        | exact ⟨rfl, u2, by rw [HX.out]; exact hF2.below (Below.refl _ _).drew, (HF.out.2.1.trans hb2).drew, (HF.out.2.2.1.trans hk2).drew⟩
  · by_cases hlt : o < (n : Int)
    · have HX : Hid (joinD n fs r o = [(ra, o)]) := by
        show _ = _
        unfold joinD
        rw [HRK.out] at hK
        rw [if_neg (by rw [hK]; decide), if_pos hK, if_pos hlt, HLN.out.1]
      clear hK
      have HJ : Hid (Calls Tryz.prog 121 #[.int .i64 ra, .int .i64 o, .pointer (some ⟨fb, 0, none⟩)] W fun e w' => JoinPost w0 W fb es [(ra, o)] e w') := join_any HF.out.1 (by omega) ra o
      go_enter Tryz.func64, Tryz.ntmps64
      go_upto_region 1 with fail
      rw [← hW]
      clear hW
      go_wp2_with (go_at_call 121; refine HJ.out.mono ?_; rintro e w2 ⟨rfl, u2, hF2, hb2, hk2⟩)
      refine bodyPost_end (results_none rfl _ _ _) rfl ?_
      exact ⟨rfl, u2, by rw [HX.out]; exact hF2, HF.out.2.1.trans hb2, HF.out.2.2.1.trans hk2⟩
    · have HX : Hid (joinD n fs r o = []) := by
        show _ = _
        unfold joinD
        rw [HRK.out] at hK
        rw [if_neg (by rw [hK]; decide), if_pos hK, if_neg hlt]
      clear hK
      go_enter Tryz.func64, Tryz.ntmps64
      go_upto_region 1 with fail
      rw [← hW]
      clear hW
      go_wp2_with fail
      refine bodyPost_end (results_none rfl _ _ _) rfl ?_
      exact ⟨rfl, u, by rw [HX.out, List.append_nil]; exact HF.out.1, HF.out.2.1, HF.out.2.2.1⟩
  · have HX : Hid (joinD n fs r o = []) := by
      show _ = _
      unfold joinD
      rw [HRK.out] at hK
      rw [if_neg hK.1, if_neg hK.2.2, if_neg hK.2.1]
    clear hK
    go_enter Tryz.func64, Tryz.ntmps64
    go_upto_region 1 with fail
    rw [← hW]
    clear hW
    go_wp2_with fail
    refine bodyPost_end (results_none rfl _ _ _) rfl ?_
    exact ⟨rfl, u, by rw [HX.out, List.append_nil]; exact HF.out.1, HF.out.2.1, HF.out.2.2.1⟩
end Go.Proofs.YtglonlpfnllocaaGreatDoor

/-
  Package cons: follow, by a contract.
-/
namespace Go.Proofs.YtglonlpfnllocaaGreatDoor
open Go.RowKit Go.Extern.Stop Go.Stop Go.Extern

/-- A [][]int that reads as hs. -/
def IsSets (w : World) (v : Value) (hs : List (List Int)) : Prop :=
  ∃ a c, v = .slice a hs.length c ∧ ∀ j, j < hs.length → ∃ b o x, a = some ⟨b, o, none⟩ ∧ w.cell? ⟨b, o + j, none⟩ = some x ∧ IsInts w x (hs.getD j [])
theorem IsSets.below {w w' : World} {v : Value} {hs : List (List Int)} (h : IsSets w v hs) (hb : Below w.heap.size w w') : IsSets w' v hs := by
  obtain ⟨a, c, e, q⟩ := h
  refine ⟨a, c, e, fun j hj => ?_⟩
  obtain ⟨b, o, x, h1, h2, h3⟩ := q j hj
  exact ⟨b, o, x, h1, cell_keep hb h2, h3.below hb⟩
theorem flat_take {α β : Type} (l : List α) (d : α) (g : α → List β) (k : Nat) (h : k < l.length) : (l.take (k + 1)).flatMap g = (l.take k).flatMap g ++ g (l.getD k d) := by
  rw [take_snoc l d k h, List.flatMap_append]; simp
theorem flat_take_le {α β : Type} (l : List α) (g : α → List β) (k : Nat) : ((l.take k).flatMap g).length ≤ (l.flatMap g).length := by
  have : l.flatMap g = (l.take k).flatMap g ++ (l.drop k).flatMap g := by rw [← List.flatMap_append, List.take_append_drop]
  rw [this]; simp

set_option maxRecDepth 100000 in
set_option maxHeartbeats 8000000 in
theorem follow_any {w0 w : World} {fb : Nat} {es : List Pair} {u : Value} (h : Found w w0.heap.size fb es u) (hw : Below w0.heap.size w0 w) (P : ProgD) (v1 v2 v3 : Value) (hF : IsFuns w0 v2 P.funs) (hfp : ∀ i, i < P.funs.length → (P.funs.getD i default).params.length ≤ 1000)
    (hv : Value) (hs : List (List Int)) (hH : IsSets w0 hv hs) (hn : hs.length ≤ 1000000) (r : RuleD) (av : Value) (ha : IsInts w0 av r.args) (hl2 : r.args.length ≤ 1000000) (kd : ByteArray) (hkd : kd.toList = r.kind)
    (hask : ¬ askedD r < 0 → (askedD r).toNat < hs.length) (hset : ∀ j, j < (setAt hs (askedD r)).length → 0 ≤ (setAt hs (askedD r)).getD j 0 ∧ (setAt hs (askedD r)).getD j 0 ≤ 1000000 ∧ (r.kind = kCall → ¬ (setAt hs (askedD r)).getD j 0 < (hs.length : Int) → ((setAt hs (askedD r)).getD j 0 - hs.length).toNat < P.funs.length))
    (hsl : (setAt hs (askedD r)).length ≤ 1000000) (hl : (es ++ followD P hs r).length ≤ 900000) :
    Calls Tryz.prog 120 #[.agg #[v1, v2, v3], .agg #[.string kd, .int .i64 r.a, .int .i64 r.b, .int .i64 r.stmt, av], hv, joinV fb] w fun e w' => JoinPost w0 w fb es (followD P hs r) e w' := by
  have hB := h.size
  obtain ⟨hva, hvc, rfl, hrow⟩ := hH
  obtain ⟨n, hnn⟩ : ∃ n, n = hs.length := ⟨_, rfl⟩
  have HN : Hid (n = hs.length) := hnn
  rw [← hnn] at hn hrow hask hset ⊢
  clear hnn
  obtain ⟨W, hW⟩ : ∃ W, W = (w.alloc (.cells #[v1, v2, v3] 26)).alloc (ruleBox kd r.a r.b r.stmt av) := ⟨_, rfl⟩
  have hBW : Below w.heap.size w W := by rw [hW]; exact (below1 w _).alloc (by simp) _
  have HFB : Hid (W.heap[w.heap.size]? = some (.cells #[v1, v2, v3] 26 (0, 0)) ∧ W.heap[w.heap.size + 1]? = some (ruleBox kd r.a r.b r.stmt av)) := by
    refine ⟨?_, ?_⟩
    · rw [hW]; exact block_keep (below1 _ _) (heap_new w _)
    · rw [hW]
      have := heap_new (w.alloc (.cells #[v1, v2, v3] 26)) (ruleBox kd r.a r.b r.stmt av)
      simpa using this
  have HF0 : Hid (Found W w0.heap.size fb es u ∧ Below w0.heap.size w W ∧ KE w W ∧ Below w0.heap.size w0 w) := ⟨h.below hBW, hBW.mono hB, KE.of_below hBW, hw⟩
  have KB : Hid (∀ wx, KE W wx → wx.cell? ⟨w.heap.size, 1, none⟩ = some v2 ∧ wx.cell? ⟨w.heap.size + 1, 0, none⟩ = some (.string kd) ∧ wx.cell? ⟨w.heap.size + 1, 1, none⟩ = some (.int .i64 r.a) ∧ wx.cell? ⟨w.heap.size + 1, 2, none⟩ = some (.int .i64 r.b) ∧ wx.cell? ⟨w.heap.size + 1, 3, none⟩ = some (.int .i64 r.stmt) ∧ wx.cell? ⟨w.heap.size + 1, 4, none⟩ = some av) := fun wx hk => by
    have h1 := hk _ _ _ _ HFB.out.1 (by decide) (by decide)
    have h2 := hk _ _ _ _ HFB.out.2 (by decide) (by decide)
    refine ⟨?_, ?_, ?_, ?_, ?_, ?_⟩
    · rw [Lib.cell_of_heap h1]; rfl
    · rw [Lib.cell_of_heap h2]; rfl
    · rw [Lib.cell_of_heap h2]; rfl
    · rw [Lib.cell_of_heap h2]; rfl
    · rw [Lib.cell_of_heap h2]; rfl
    · rw [Lib.cell_of_heap h2]; rfl
  obtain ⟨b1, c0, c1, c2, c3, c4⟩ := KB.out W (KE.refl _)
  by_cases hcp : r.kind = kCopy
  · have g0 : (kd.toList == [99, 111, 112, 121]) = true := by rw [hkd, hcp]; decide
    have hasked : askedD r = -1 := by
      unfold askedD
      rw [if_neg (by rw [hcp]; decide), if_neg (by rw [hcp]; decide), if_neg (by rw [hcp]; decide)]
    have HX : Hid (followD P hs r = [(r.a, r.b)]) := by
      show _ = _
      unfold followD copyD
      rw [if_pos hcp, hasked]; simp
    have HJ : Hid (Calls Tryz.prog 121 #[.int .i64 r.a, .int .i64 r.b, .pointer (some ⟨fb, 0, none⟩)] W fun e w' => JoinPost w0 W fb es [(r.a, r.b)] e w') := join_any HF0.out.1 (by simp at hl; omega) r.a r.b
    have KA : Hid (∀ wx, Calls Tryz.prog 63 #[.agg #[.string kd, .int .i64 r.a, .int .i64 r.b, .int .i64 r.stmt, av]] wx fun e w' => e = .returned (.int .i64 (-1)) ∧ Below wx.heap.size wx w') := fun wx => by
      have := asked_any r av kd hkd wx
      rw [hasked] at this
      exact this
    obtain ⟨ra, hra⟩ : ∃ z, z = r.a := ⟨_, rfl⟩
    obtain ⟨rb, hrb⟩ : ∃ z, z = r.b := ⟨_, rfl⟩
    obtain ⟨rs, hrs⟩ : ∃ z, z = r.stmt := ⟨_, rfl⟩
    rw [← hra, ← hrb, ← hrs] at hW KA KB ⊢
    rw [← hra] at HJ HX c1
    rw [← hrb] at HJ HX c2
    rw [← hrs] at c3
    clear hra hrb hrs h hw hrow hask hset hsl hl hcp hkd hasked HFB
    go_enter Tryz.func120, Tryz.ntmps120
    go_upto_region 1 with fail
    rw [← hW]
    clear hW
    go_wp2_with fail
    refine HJ.out.mono ?_
    rintro e w2 ⟨rfl, u2, hF2, hb2, hk2⟩
    clear b1 c0 c1 c2 c3 c4
    obtain ⟨b1, c0, c1, c2, c3, c4⟩ := KB.out w2 hk2
    go_wp2_with fail
    refine (KA.out _).mono ?_
    rintro e w3 ⟨rfl, hB3⟩
    go_wp2_with fail
    refine bodyPost_ret (results_none rfl _ _ _) rfl ?_
    exact ⟨rfl, u2, by rw [HX.out]; exact hF2.below hB3, (HF0.out.2.1.trans hb2).trans (hB3.mono hF2.size), (HF0.out.2.2.1.trans hk2).trans (KE.of_below hB3)⟩
  · have g0 : (kd.toList == [99, 111, 112, 121]) = false := by rw [hkd]; exact beq_eq_false_iff_ne.2 hcp
    have hfo : followD P hs r = if askedD r < 0 then [] else (setAt hs (askedD r)).flatMap (joinD hs.length P.funs r) := by
      unfold followD copyD
      rw [if_neg hcp]; simp
    have KA : Hid (∀ wx, Calls Tryz.prog 63 #[.agg #[.string kd, .int .i64 r.a, .int .i64 r.b, .int .i64 r.stmt, av]] wx fun e w' => e = .returned (.int .i64 (askedD r)) ∧ Below wx.heap.size wx w') := fun wx => asked_any r av kd hkd wx
    by_cases hneg : askedD r < 0
    · have HX : Hid (followD P hs r = []) := by show _ = _; rw [hfo, if_pos hneg]
      obtain ⟨q, hq⟩ : ∃ q, q = askedD r := ⟨_, rfl⟩
      rw [← hq] at KA hneg
      clear h hw hrow hask hset hsl hl hcp hkd HFB hfo hq
      go_enter Tryz.func120, Tryz.ntmps120
      go_upto_region 1 with fail
      rw [← hW]
      clear hW
      go_wp2_with fail
      refine (KA.out _).mono ?_
      rintro e w3 ⟨rfl, hB3⟩
      go_wp2_with fail
      refine bodyPost_ret (results_none rfl _ _ _) rfl ?_
      exact ⟨rfl, u, by rw [HX.out, List.append_nil]; exact HF0.out.1.below hB3, HF0.out.2.1.trans (hB3.mono HF0.out.1.size), HF0.out.2.2.1.trans (KE.of_below hB3)⟩
    · rw [if_neg hneg] at hfo
      have hj := hask hneg
      obtain ⟨q, hq⟩ : ∃ q, q = (askedD r).toNat := ⟨_, rfl⟩
      have hqq : askedD r = (q : Int) := by omega
      rw [← hq] at hj
      obtain ⟨b, o, x, rfl, e0, hx⟩ := hrow q hj
      have hsx : setAt hs (askedD r) = hs.getD q [] := by unfold setAt; rw [hq]
      rw [hsx] at hset hsl hfo
      obtain ⟨zs, hzs⟩ : ∃ zs, zs = hs.getD q [] := ⟨_, rfl⟩
      rw [← hzs] at hset hsl hfo hx
      obtain ⟨xa, xc, rfl⟩ := isInts_form hx
      obtain ⟨m, hm⟩ : ∃ m, m = zs.length := ⟨_, rfl⟩
      rw [← hm] at hset hsl e0
      rw [hqq] at KA
      have hw0 := HF0.out.2.2.2.trans HF0.out.2.1
      have HE0 : Hid (∀ wx, Below w0.heap.size w0 wx → wx.cell? ⟨b, o + q, none⟩ = some (.slice xa m xc)) := fun wx hb => cell_keep hb e0
      have HXS : Hid (∀ wx, Below w0.heap.size w0 wx → ∀ j, j < m → ∃ b o, xa = some ⟨b, o, none⟩ ∧ wx.cell? ⟨b, o + j, none⟩ = some (.int .i64 (zs.getD j 0))) := fun wx hb j hj => isInts_at (hx.below hb) j (by omega)
      have HX : Hid (followD P hs r = zs.flatMap (joinD n P.funs r)) := by show _ = _; rw [hfo, HN.out]
      have HLE : Hid (∀ k, (es ++ (zs.take k).flatMap (joinD n P.funs r)).length ≤ 900000) := fun k => by
        have h1 := flat_take_le zs (joinD n P.funs r) k
        rw [← HX.out] at h1
        simp only [List.length_append] at hl ⊢
        omega
      have KJ : Hid (∀ wx k u', k < m → Below w0.heap.size w0 wx → Found wx w0.heap.size fb (es ++ (zs.take k).flatMap (joinD n P.funs r)) u' → Calls Tryz.prog 64 #[.agg #[.string kd, .int .i64 r.a, .int .i64 r.b, .int .i64 r.stmt, av], .int .i64 (n : Int), v2, .int .i64 (zs.getD k 0), joinV fb] wx fun e w' => JoinPost w0 wx fb (es ++ (zs.take k).flatMap (joinD n P.funs r)) (joinD n P.funs r (zs.getD k 0)) e w') := fun wx k u' hk hb hFx => by
        obtain ⟨s1, s2, s3⟩ := hset k hk
        exact joinM_any hFx hb n P.funs v2 hF r av ha kd hkd _ s1 s2 hn s3 hfp (HLE.out k) hl2
      have HTK : Hid (∀ k, k < m → (zs.take (k + 1)).flatMap (joinD n P.funs r) = (zs.take k).flatMap (joinD n P.funs r) ++ joinD n P.funs r (zs.getD k 0)) := fun k hk => flat_take zs 0 _ k (by omega)
      have HML : Hid (m = zs.length) := hm
      have hji : (q : Int) < n := by omega
      obtain ⟨ra, hra⟩ : ∃ z, z = r.a := ⟨_, rfl⟩
      obtain ⟨rb, hrb⟩ : ∃ z, z = r.b := ⟨_, rfl⟩
      obtain ⟨rs, hrs⟩ : ∃ z, z = r.stmt := ⟨_, rfl⟩
      rw [← hra, ← hrb, ← hrs] at hW KA KB KJ ⊢
      rw [← hra] at c1
      rw [← hrb] at c2
      rw [← hrs] at c3
      clear hra hrb hrs h hw hrow hask hset hl hcp hkd hfo hq hqq hsx hzs hm hx e0 hneg ha hF hfp hj HFB
      go_enter Tryz.func120, Tryz.ntmps120
      go_upto_region 1 with fail
      rw [← hW]
      clear hW
      go_wp2_with fail
      refine (KA.out _).mono ?_
      rintro e w3 ⟨rfl, hB3⟩
      have e0 := HE0.out w3 (hw0.trans (hB3.mono HF0.out.1.size))
      have HS3 : Hid (Found w3 w0.heap.size fb es u ∧ Below w0.heap.size w w3 ∧ KE W w3) := ⟨HF0.out.1.below hB3, HF0.out.2.1.trans (hB3.mono HF0.out.1.size), KE.of_below hB3⟩
      clear b1 c0 c1 c2 c3 c4 hB3 hw0
      go_wp2_with fail
      clear e0
      go_loopw [29] (fun t wr => ∃ k : Nat, k ≤ m ∧ t = .int .i64 k ∧ (∃ u', Found wr w0.heap.size fb (es ++ (zs.take k).flatMap (joinD n P.funs r)) u') ∧ Below w0.heap.size w wr ∧ KE W wr) (fun t _ => (m - intOf t).toNat)
      case atStart => exact ⟨0, Nat.zero_le _, rfl, ⟨u, by simpa using HS3.out.1⟩, HS3.out.2.1, HS3.out.2.2⟩
      case round =>
        obtain ⟨k, hk, rfl, ⟨u1, hF1⟩, hwr, hke⟩ := hrel
        have hB0 := HF0.out.2.2.2.trans hwr
        by_cases hlt : k < m
        · obtain ⟨sb, so, rfl, e1⟩ := HXS.out wr hB0 k hlt
          obtain ⟨b1, c0, c1, c2, c3, c4⟩ := KB.out wr hke
          have hki : (k : Int) < m := by omega
          have HJ := KJ.out wr k u1 hlt hB0 hF1
          have hT := HTK.out k hlt
          obtain ⟨z, hz⟩ : ∃ z, z = zs.getD k 0 := ⟨_, rfl⟩
          rw [← hz] at e1 HJ hT
          have HJ' : Hid _ := HJ
          have HT : Hid _ := hT
          clear hF1 hz HJ hT
          go_wp2_with (go_at_call 64; refine Calls.mono HJ'.out ?_; rintro e w2 ⟨rfl, u2, hF2, hb2, hk2⟩)
          go_roundw
          case rel => exact ⟨k + 1, hlt, by go_num, ⟨u2, by rw [HT.out, ← List.append_assoc]; exact hF2⟩, hwr.trans hb2, hke.trans hk2⟩
          case measure => simp [intOf]; omega
        · have hkm : k = m := by omega
          subst hkm
          have hzt : zs.take k = zs := List.take_of_length_le (by rw [HML.out]; exact Nat.le_refl _)
          rw [hzt] at hF1
          have HF1 : Hid (Found wr w0.heap.size fb (es ++ zs.flatMap (joinD n P.funs r)) u1) := hF1
          clear hF1 hzt
          go_wp2_with fail
          refine bodyPost_end (results_none rfl _ _ _) rfl ?_
          exact ⟨rfl, u1, by rw [HX.out]; exact HF1.out, hwr, HF0.out.2.2.1.trans hke⟩
end Go.Proofs.YtglonlpfnllocaaGreatDoor

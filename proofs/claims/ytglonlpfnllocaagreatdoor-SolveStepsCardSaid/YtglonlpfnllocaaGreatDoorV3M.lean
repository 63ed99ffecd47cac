/-
  Package solve in memory: a rule's function is entered, with the solver's join.
-/
import Derived.Test.YtglonlpfnllocaaGreatDoorV2M
import Derived.Test.YtglonlpfnllocaaGreatDoorXCM
import Derived.Deep.RegionHeld3
import Derived.Test.YtglonlpfnllocaaGreatDoorV1M
namespace Go.Proofs.YtglonlpfnllocaaGreatDoor
open Go.RowKit Go.Extern.Stop Go.Stop Go.Extern Go.Maps

theorem SolM.own_lt {w : World} {B sb : Nat} {fs : List FunD} {m : SolB} {s : SolD} (h : SolM w B sb fs m s) (k : Nat) (hk : OwnB sb m s k) : k < w.heap.size := by
  rcases hk with rfl | rfl | rfl | rfl | rfl | q | ⟨j, hj, q⟩ | ⟨a, ha, q⟩ | ⟨a, ha, q⟩
  · exact (Array.getElem?_eq_some_iff.1 h.blk).1
  · exact h.has.lt
  · exact h.known.lt
  · exact h.edges.lt
  · exact h.rules.lt
  · exact (ownBlock_lt h.due q).1
  · exact (ownBlock_lt (h.has.own j hj) q).1
  · exact (ownBlock_lt (h.erow a ha) q).1
  · exact (ownBlock_lt (h.rrow a ha) q).1
/-- A block that was laid behind the solver is kept by its steps. -/
theorem SolStep.above {w w1 w2 : World} {B sb : Nat} {fs : List FunD} {m m' : SolB} {s s' : SolD} (h : SolM w B sb fs m s) (hs : SolStep w1 w2 sb m m' s s') {k : Nat} {o : Obj} (hk : w1.heap[k]? = some o) (hge : w.heap.size ≤ k) : w2.heap[k]? = some o :=
  hs.keep k o hk fun q => absurd (h.own_lt k q) (Nat.not_lt.2 hge)
abbrev joinSV (sb : Nat) : Value := .func (.func 62) #[.pointer (some ⟨sb, 0, none⟩)] #[]
/-- The state behind the first k joins. -/
def jK (s : SolD) (ps : List Pair) (k : Nat) : SolD := (ps.take k).foldl SolD.join s
theorem jK_next (s : SolD) (ps : List Pair) (k : Nat) (hk : k < ps.length) : jK s ps (k + 1) = (jK s ps k).join (ps.getD k default) := by
  unfold jK
  rw [List.take_succ_eq_append_getElem hk, List.foldl_append]
  simp [List.getD, hk]
theorem jK_all (s : SolD) (ps : List Pair) : jK s ps ps.length = ps.foldl SolD.join s := by unfold jK; rw [List.take_length]
theorem joinsF_len {f : FunD} {r : RuleD} (h : f.params.length = r.args.length) : (joinsF f r).length = f.params.length + 1 := by
  unfold joinsF
  rw [if_pos h, List.length_append, List.length_zip]
  simp
  omega
theorem joinsF_at {f : FunD} {r : RuleD} (h : f.params.length = r.args.length) (k : Nat) (hk : k < f.params.length) : (joinsF f r).getD k default = (r.args.getD k 0, f.params.getD k 0) := by
  unfold joinsF
  rw [if_pos h]
  have h1 : k < r.args.length := by omega
  have h3 : k < (List.zip r.args f.params).length := by simp; omega
  rw [List.getD_eq_getElem?_getD, List.getElem?_append_left h3, List.getElem?_eq_getElem h3]
  simp [List.getD, hk, h1]
theorem joinsF_last {f : FunD} {r : RuleD} (h : f.params.length = r.args.length) : (joinsF f r).getD f.params.length default = (f.ret, r.b) := by
  unfold joinsF
  rw [if_pos h]
  have h2 : (List.zip r.args f.params).length = f.params.length := by rw [List.length_zip]; omega
  rw [List.getD_eq_getElem?_getD, List.getElem?_append_right (by omega), h2, Nat.sub_self]
  rfl

set_option maxRecDepth 100000 in
set_option maxHeartbeats 8000000 in
theorem enterS_any {w : World} {B sb : Nat} {fs : List FunD} {m : SolB} {s : SolD} (h : SolM w B sb fs m s) (f : FunD) (pv : Value) (r : RuleD) (av : Value) (hin : ∀ m' s' wx, SolStep w wx sb m m' s s' → IsInts wx pv f.params ∧ IsInts wx av r.args)
    (hpl : f.params.length ≤ 1000) (hal : r.args.length ≤ 1000000) (hjo : ∀ k, k < (joinsF f r).length → JoinOk (jK s (joinsF f r) k) ((joinsF f r).getD k default)) (hkn : m.kn + 1002 * 1000000 < maxLen) (hen : m.en + 1002 < maxLen) (nm kd : ByteArray) :
    Calls Tryz.prog 90 #[.agg #[.string nm, pv, .int .i64 f.ret], .agg #[.string kd, .int .i64 r.a, .int .i64 r.b, .int .i64 r.stmt, av], joinSV sb] w fun e w' => e = .returned (.tuple #[]) ∧ JoinsPost w B sb fs m s ((joinsF f r).foldl SolD.join s) (joinsF f r).length w' := by
  have hin0 := hin m s w (SolStep.refl (Below.refl _ w) sb m s)
  obtain ⟨pa, pc, rfl⟩ := isInts_form hin0.1
  obtain ⟨aa, ac, rfl⟩ := isInts_form hin0.2
  obtain ⟨np, hnp⟩ : ∃ n, n = f.params.length := ⟨_, rfl⟩
  obtain ⟨na, hna⟩ : ∃ n, n = r.args.length := ⟨_, rfl⟩
  obtain ⟨z, hz⟩ : ∃ z, z = f.ret := ⟨_, rfl⟩
  obtain ⟨rb, hrb⟩ : ∃ z, z = r.b := ⟨_, rfl⟩
  have HLN : Hid (np = f.params.length ∧ na = r.args.length ∧ z = f.ret ∧ rb = r.b) := ⟨hnp, hna, hz, hrb⟩
  have HM : Hid (SolM w B sb fs m s) := h
  have HIN : Hid (∀ m' s' wx, SolStep w wx sb m m' s s' → IsInts wx (.slice pa np pc) f.params ∧ IsInts wx (.slice aa na ac) r.args) := by rw [hnp, hna]; exact hin
  have HJO : Hid ((∀ k, k < (joinsF f r).length → JoinOk (jK s (joinsF f r) k) ((joinsF f r).getD k default)) ∧ m.kn + 1002 * 1000000 < maxLen ∧ m.en + 1002 < maxLen) := ⟨hjo, hkn, hen⟩
  rw [← hnp] at hpl ⊢
  rw [← hna] at hal ⊢
  rw [← hz, ← hrb]
  obtain ⟨W, hW⟩ : ∃ W, W = (w.alloc (funBox nm (.slice pa np pc) z)).alloc (ruleBox kd r.a rb r.stmt (.slice aa na ac)) := ⟨_, rfl⟩
  have hBW : Below w.heap.size w W := by rw [hW]; exact (below1 w _).alloc (by simp) _
  have HFB : Hid (W.heap[w.heap.size]? = some (funBox nm (.slice pa np pc) z) ∧ W.heap[w.heap.size + 1]? = some (ruleBox kd r.a rb r.stmt (.slice aa na ac)) ∧ Below w.heap.size w W) := by
    refine ⟨?_, ?_, hBW⟩
    · rw [hW]; exact block_keep (below1 _ _) (heap_new w _)
    · rw [hW]
      have := heap_new (w.alloc (funBox nm (.slice pa np pc) z)) (ruleBox kd r.a rb r.stmt (.slice aa na ac))
      simpa using this
  have c1 : W.cell? ⟨w.heap.size, 1, none⟩ = some (.slice pa np pc) := by rw [Lib.cell_of_heap HFB.out.1]; rfl
  have d4 : W.cell? ⟨w.heap.size + 1, 4, none⟩ = some (.slice aa na ac) := by rw [Lib.cell_of_heap HFB.out.2.1]; rfl
  clear h hin hin0 hjo hkn hen hnp hna hz hrb hBW
  by_cases hg : np = na
  · subst hg
    go_enter Tryz.func90, Tryz.ntmps90
    go_upto_region 1 with fail
    rw [← hW]
    clear hW
    go_wp2_with fail
    clear c1 d4
    have HEQ : Hid (f.params.length = r.args.length) := by show _ = _; rw [← HLN.out.1, ← HLN.out.2.1]
    go_loopw [18] (fun t wr => ∃ k : Nat, k ≤ np ∧ t = .int .i64 k ∧ JoinsPost W B sb fs m s (jK s (joinsF f r) k) k wr ∧ wr.heap[w.heap.size]? = some (funBox nm (.slice pa np pc) z) ∧ wr.heap[w.heap.size + 1]? = some (ruleBox kd r.a rb r.stmt (.slice aa np ac))) (fun t _ => (np - intOf t).toNat)
    case atStart => exact ⟨0, Nat.zero_le _, rfl, JoinsPost.none (HM.out.below HFB.out.2.2) (Below.refl _ _), HFB.out.1, HFB.out.2.1⟩
    case round =>
      obtain ⟨k, hk, rfl, hJP, hb1, hb2⟩ := hrel
      obtain ⟨m1, hM1, hS1, q1, q2, q3⟩ := hJP
      have hSw := (SolStep.refl HFB.out.2.2 sb m s).trans hS1
      have hin1 := HIN.out m1 _ wr hSw
      have hlen := joinsF_len HEQ.out
      rw [← HLN.out.1] at hlen
      by_cases hlt : k < np
      · obtain ⟨b, o, rfl, e0⟩ := isInts_at hin1.1 k (by rw [← HLN.out.1]; exact hlt)
        obtain ⟨b2, o2, rfl, e1⟩ := isInts_at hin1.2 k (by rw [← HLN.out.2.1]; exact hlt)
        have d4 : wr.cell? ⟨w.heap.size + 1, 4, none⟩ = some (.slice (some ⟨b2, o2, none⟩) np ac) := by rw [Lib.cell_of_heap hb2]; rfl
        have hki : (k : Int) < np := by omega
        have hjo := HJO.out.1 k (by rw [hlen]; omega)
        have hat := joinsF_at HEQ.out k (by rw [← HLN.out.1]; exact hlt)
        have hnx := jK_next s (joinsF f r) k (by rw [hlen]; omega)
        rw [hat] at hjo hnx
        have HJ : Hid _ := joinS_any hM1 _ _ hjo (by have := HJO.out.2.1; omega) (by have := HJO.out.2.2; omega)
        have HNX : Hid (∀ w2, JoinsPost wr B sb fs m1 (jK s (joinsF f r) k) ((jK s (joinsF f r) k).join (r.args.getD k 0, f.params.getD k 0)) 1 w2 → JoinsPost W B sb fs m s (jK s (joinsF f r) (k + 1)) (k + 1) w2 ∧ w2.heap[w.heap.size]? = some (funBox nm (.slice (some ⟨b, o, none⟩) np pc) z) ∧ w2.heap[w.heap.size + 1]? = some (ruleBox kd r.a rb r.stmt (.slice (some ⟨b2, o2, none⟩) np ac))) := fun w2 hp => by
          obtain ⟨m2, g1, g2, g3, g4, g5⟩ := hp
          have hno : ∀ b', w.heap.size ≤ b' → b' < W.heap.size → ¬ OwnB sb m1 (jK s (joinsF f r) k) b' := fun b' h1 h2 q => by
            rcases hS1.own b' q with q4 | q4
            · exact absurd (HM.out.own_lt b' q4) (Nat.not_lt.2 h1)
            · omega
          have hl1 := (Array.getElem?_eq_some_iff.1 HFB.out.1).1
          have hl2 := (Array.getElem?_eq_some_iff.1 HFB.out.2.1).1
          refine ⟨⟨m2, by rw [hnx]; exact g1, by rw [hnx]; exact hS1.trans g2, by omega, by omega, g5.trans q3⟩, ?_, ?_⟩
          · exact g2.keep _ _ hb1 (hno _ (Nat.le_refl _) hl1)
          · exact g2.keep _ _ hb2 (hno _ (Nat.le_succ _) hl2)
        obtain ⟨x, hx⟩ : ∃ x, x = r.args.getD k 0 := ⟨_, rfl⟩
        obtain ⟨y, hy⟩ : ∃ y, y = f.params.getD k 0 := ⟨_, rfl⟩
        rw [← hy] at e0 HJ HNX
        rw [← hx] at e1 HJ HNX
        clear hx hy hSw hM1 hS1 q1 q2 q3 hin1 hlen hjo hat hnx hb1 hb2
        go_wp2_with (go_at_call 62; refine Calls.mono HJ.out ?_; rintro e w2 ⟨rfl, hp⟩)
        go_roundw
        case rel => exact ⟨k + 1, hlt, by go_num, HNX.out _ hp⟩
        case measure => simp [intOf]; omega
      · have hkn : k = np := by omega
        subst hkn
        have b2 : wr.cell? ⟨w.heap.size, 2, none⟩ = some (.int .i64 z) := by rw [Lib.cell_of_heap hb1]; rfl
        have d2 : wr.cell? ⟨w.heap.size + 1, 2, none⟩ = some (.int .i64 rb) := by rw [Lib.cell_of_heap hb2]; rfl
        have hjo := HJO.out.1 k (by rw [hlen]; omega)
        have hat := joinsF_last HEQ.out
        rw [← HLN.out.1, ← HLN.out.2.2.1, ← HLN.out.2.2.2] at hat
        have hnx := jK_next s (joinsF f r) k (by rw [hlen]; omega)
        have hall := jK_all s (joinsF f r)
        rw [hat] at hjo hnx
        rw [hlen] at hall
        have HJ : Hid _ := joinS_any hM1 _ _ hjo (by have := HJO.out.2.1; omega) (by have := HJO.out.2.2; omega)
        have HNX : Hid (∀ w2, JoinsPost wr B sb fs m1 (jK s (joinsF f r) k) ((jK s (joinsF f r) k).join (z, rb)) 1 w2 → JoinsPost w B sb fs m s ((joinsF f r).foldl SolD.join s) (joinsF f r).length w2) := fun w2 hp => by
          obtain ⟨m2, g1, g2, g3, g4, g5⟩ := hp
          rw [hlen, ← hall]
          exact ⟨m2, by rw [hnx]; exact g1, by rw [hnx]; exact hSw.trans g2, by omega, by omega, g5.trans q3⟩
        clear hSw hM1 hS1 q1 q2 q3 hin1 hlen hjo hat hnx hb1 hb2 hall
        go_wp2_with (go_at_call 62; refine Calls.mono HJ.out ?_; rintro e w2 ⟨rfl, hp⟩)
        refine bodyPost_end (results_none rfl _ _ _) rfl ?_
        exact ⟨rfl, HNX.out _ hp⟩
  · have hg' : ¬ ((np : Int) = (na : Int)) := by omega
    have HS : Hid (joinsF f r = []) := by
      show _ = _
      unfold joinsF
      rw [if_neg (by rw [← HLN.out.1, ← HLN.out.2.1]; exact hg)]
    go_enter Tryz.func90, Tryz.ntmps90
    go_upto_region 1 with fail
    rw [← hW]
    clear hW
    go_wp2_with fail
    refine bodyPost_ret (results_none rfl _ _ _) rfl ?_
    exact ⟨rfl, by rw [HS.out]; exact JoinsPost.none HM.out HFB.out.2.2⟩
end Go.Proofs.YtglonlpfnllocaaGreatDoor

/-
  Package solve in memory: (Rule).Join with the solver's join.
-/
namespace Go.Proofs.YtglonlpfnllocaaGreatDoor
open Go.RowKit Go.Extern.Stop Go.Stop Go.Extern Go.Maps

set_option maxRecDepth 100000 in
set_option maxHeartbeats 8000000 in
theorem joinRS_any {w : World} {B sb : Nat} {fs : List FunD} {m : SolB} {s : SolD} (h : SolM w B sb fs m s) (n : Nat) (fv : Value) (hFn : IsFuns w fv fs) (r : RuleD) (av : Value)
    (hin : ∀ m' s' wx, SolStep w wx sb m m' s s' → IsFuns wx fv fs ∧ IsInts wx av r.args) (kd : ByteArray) (hkd : kd.toList = r.kind) (o : Int) (ho0 : 0 ≤ o) (ho1 : o ≤ 1000000) (hn : n ≤ 1000000)
    (hoc : r.kind = kCall → ¬ o < (n : Int) → (o - n).toNat < fs.length) (hfp : ∀ i, i < fs.length → (fs.getD i default).params.length ≤ 1000) (hfk : ∀ i, i < fs.length → ∀ b q c pv, fv = .slice (some ⟨b, q, none⟩) fs.length c → w.cell? ⟨b, q + i * 3 + 1, none⟩ = some pv → ∀ m' s' wx, SolStep w wx sb m m' s s' → IsInts wx pv (fs.getD i default).params) (hl2 : r.args.length ≤ 1000000)
    (hjo : ∀ k, k < (joinD n fs r o).length → JoinOk (jK s (joinD n fs r o) k) ((joinD n fs r o).getD k default)) (hkn : m.kn + 1002 * 1000000 < maxLen) (hen : m.en + 1002 < maxLen) :
    Calls Tryz.prog 64 #[.agg #[.string kd, .int .i64 r.a, .int .i64 r.b, .int .i64 r.stmt, av], .int .i64 (n : Int), fv, .int .i64 o, joinSV sb] w fun e w' => e = .returned (.tuple #[]) ∧ JoinsPost w B sb fs m s ((joinD n fs r o).foldl SolD.join s) (joinD n fs r o).length w' := by
  have hk := rule_kinds r.kind
  rw [← hkd] at hk
  obtain ⟨ra, hra⟩ : ∃ z, z = r.a := ⟨_, rfl⟩
  obtain ⟨rb, hrb⟩ : ∃ z, z = r.b := ⟨_, rfl⟩
  have HLN : Hid (ra = r.a ∧ rb = r.b) := ⟨hra, hrb⟩
  have HRK : Hid (kd.toList = r.kind) := hkd
  have HM : Hid (SolM w B sb fs m s) := h
  have HJO : Hid ((∀ k, k < (joinD n fs r o).length → JoinOk (jK s (joinD n fs r o) k) ((joinD n fs r o).getD k default)) ∧ m.kn + 1002 * 1000000 < maxLen ∧ m.en + 1002 < maxLen) := ⟨hjo, hkn, hen⟩
  rw [← hra, ← hrb]
  obtain ⟨W, hW⟩ : ∃ W, W = w.alloc (ruleBox kd ra rb r.stmt av) := ⟨_, rfl⟩
  have hBW : Below w.heap.size w W := by rw [hW]; exact below1 w _
  have HBW : Hid (Below w.heap.size w W) := hBW
  have HFB : Hid (W.heap[w.heap.size]? = some (ruleBox kd ra rb r.stmt av)) := by show _ = _; rw [hW]; exact heap_new w _
  have c0 : W.cell? ⟨w.heap.size, 0, none⟩ = some (.string kd) := by rw [Lib.cell_of_heap HFB.out]; rfl
  have c1 : W.cell? ⟨w.heap.size, 1, none⟩ = some (.int .i64 ra) := by rw [Lib.cell_of_heap HFB.out]; rfl
  have c2 : W.cell? ⟨w.heap.size, 2, none⟩ = some (.int .i64 rb) := by rw [Lib.cell_of_heap HFB.out]; rfl
  have c3 : W.cell? ⟨w.heap.size, 3, none⟩ = some (.int .i64 r.stmt) := by rw [Lib.cell_of_heap HFB.out]; rfl
  have c4 : W.cell? ⟨w.heap.size, 4, none⟩ = some av := by rw [Lib.cell_of_heap HFB.out]; rfl
  clear h hra hrb hkd hjo hkn hen
  rcases hk with ⟨hK, g1, g2, g3⟩ | ⟨hK, g1, g2, g3⟩ | ⟨hK, g1, g2, g3⟩ | ⟨hK, g1, g2, g3⟩
  · by_cases hlt : o < (n : Int)
    · have HX : Hid (joinD n fs r o = [(o, rb)]) := by
        show _ = _
        unfold joinD
        rw [HRK.out] at hK
        rw [if_pos hK, if_pos hlt, HLN.out.2]
      clear hK
      have hjo := HJO.out.1 0 (by rw [HX.out]; exact Nat.zero_lt_one)
      rw [HX.out] at hjo
      have HJ : Hid _ := joinS_any (HM.out.below HBW.out) o rb hjo (by have := HJO.out.2.1; omega) (by have := HJO.out.2.2; omega)
      go_enter Tryz.func64, Tryz.ntmps64
      go_upto_region 1 with fail
      rw [← hW]
      clear hW
      go_wp2_with (go_at_call 62; refine Calls.mono HJ.out ?_; rintro e w2 ⟨rfl, m2, g1, g2, g3⟩)
      refine bodyPost_end (results_none rfl _ _ _) rfl ?_
      exact ⟨rfl, by rw [HX.out]; exact ⟨m2, g1, (SolStep.refl HBW.out sb m s).trans g2, g3⟩⟩
    · have HX : Hid (joinD n fs r o = []) := by
        show _ = _
        unfold joinD
        rw [HRK.out] at hK
        rw [if_pos hK, if_neg hlt]
      clear hK
      go_enter Tryz.func64, Tryz.ntmps64
      go_upto_region 1 with fail
      rw [← hW]
      clear hW
      go_wp2_with fail
      refine bodyPost_end (results_none rfl _ _ _) rfl ?_
      exact ⟨rfl, by rw [HX.out]; exact JoinsPost.none HM.out HBW.out⟩
  · by_cases hlt : o < (n : Int)
    · have HX : Hid (joinD n fs r o = []) := by
        show _ = _
        unfold joinD
        rw [HRK.out] at hK
        rw [if_neg (by rw [hK]; decide), if_neg (by rw [hK]; decide), if_pos hK, if_pos hlt]
      clear hK
      go_enter Tryz.func64, Tryz.ntmps64
      go_upto_region 1 with fail
      rw [← hW]
      clear hW
      go_wp2_with fail
      refine bodyPost_end (results_none rfl _ _ _) rfl ?_
      exact ⟨rfl, by rw [HX.out]; exact JoinsPost.none HM.out HBW.out⟩
    · have hK' := hK
      rw [HRK.out] at hK'
      have hi := hoc hK' hlt
      obtain ⟨i, hie⟩ : ∃ i, i = (o - n).toNat := ⟨_, rfl⟩
      rw [← hie] at hi
      have hoi : o = (n : Int) + (i : Int) := by omega
      obtain ⟨f, hfe⟩ : ∃ f, f = fs.getD i default := ⟨_, rfl⟩
      have HX : Hid (joinD n fs r o = joinsF f r) := by
        show _ = _
        unfold joinD
        rw [if_neg (by rw [hK']; decide), if_neg (by rw [hK']; decide), if_pos hK', if_neg hlt, ← hie, hfe]
      obtain ⟨fa, fc, rfl, -, hfs⟩ := hFn
      obtain ⟨fbk, fo, rfl, pv, q0, q1, qp, q2⟩ := hfs i hi
      have hpk := hfk i hi fbk fo fc pv rfl q1
      have hfpi := hfp i hi
      rw [← hfe] at q0 q2 hfpi hpk
      have hpi := hpk m s w (SolStep.refl (Below.refl _ w) sb m s)
      obtain ⟨pa, pc, rfl⟩ := isInts_form hpi
      have KEn : Hid (∀ wx, Below W.heap.size W wx → Calls Tryz.prog 90 #[.agg #[.string (S f.name), .slice pa f.params.length pc, .int .i64 f.ret], .agg #[.string kd, .int .i64 ra, .int .i64 rb, .int .i64 r.stmt, av], joinSV sb] wx fun e w' => e = .returned (.tuple #[]) ∧ JoinsPost w B sb fs m s ((joinD n fs r o).foldl SolD.join s) (joinD n fs r o).length w') := fun wx hb => by
        have hbx := HBW.out.trans (hb.mono HBW.out.size)
        have hst := SolStep.refl hbx sb m s
        have hjj := HJO.out.1
        rw [HX.out] at hjj ⊢
        have := enterS_any (HM.out.below hbx) f (.slice pa f.params.length pc) r av (fun m' s' wy hs => ⟨hpk m' s' wy (hst.trans hs), (hin m' s' wy (hst.trans hs)).2⟩) hfpi hl2 hjj HJO.out.2.1 HJO.out.2.2 (S f.name) kd
        rw [← HLN.out.1, ← HLN.out.2] at this
        exact this.mono fun e w' ⟨r1, m2, r2, r3, r4⟩ => ⟨r1, m2, r2, hst.trans r3, r4⟩
      replace q0 := cell_keep HBW.out q0
      replace q1 := cell_keep HBW.out q1
      replace q2 := cell_keep HBW.out q2
      obtain ⟨nm, hnm⟩ : ∃ t, t = S f.name := ⟨_, rfl⟩
      obtain ⟨np, hnp⟩ : ∃ t, t = f.params.length := ⟨_, rfl⟩
      obtain ⟨z, hz⟩ : ∃ t, t = f.ret := ⟨_, rfl⟩
      obtain ⟨n2, hn2⟩ : ∃ t, t = fs.length := ⟨_, rfl⟩
      rw [← hnm] at q0 KEn
      rw [← hnp] at q1 KEn
      rw [← hz] at q2 KEn
      rw [← hn2]
      have hii : (i : Int) < n2 := by omega
      have hi0 : (0 : Int) ≤ i := by omega
      have hwr : IntKind.i64.wrap (o - (n : Int)) = (i : Int) := by rw [IntKind.wrap_i64]; omega
      have hox : ¬ o < (n : Int) := hlt
      clear hoi
      clear hfs hK hK' hfe hnm hnp hz hn2 hpi hfpi hoc hfp hie hi hpk hfk hin qp HX HJO HM
      go_enter Tryz.func64, Tryz.ntmps64
      go_upto_region 1 with fail
      rw [← hW]
      clear hW
      go_upto_region 7 with fail
      have KX : Hid (∀ wx, Below W.heap.size W wx → wx.cell? ⟨w.heap.size, 0, none⟩ = some (.string kd) ∧ wx.cell? ⟨w.heap.size, 1, none⟩ = some (.int .i64 ra) ∧ wx.cell? ⟨w.heap.size, 2, none⟩ = some (.int .i64 rb) ∧ wx.cell? ⟨w.heap.size, 3, none⟩ = some (.int .i64 r.stmt) ∧ wx.cell? ⟨w.heap.size, 4, none⟩ = some av) := fun wx hb => ⟨cell_keep hb c0, cell_keep hb c1, cell_keep hb c2, cell_keep hb c3, cell_keep hb c4⟩
      go_region_with (go_at_call 90; refine Calls.mono (KEn.out _ (by first | exact Below.refl _ _ | exact (Below.refl _ _).drew)) ?_; rintro e w2 ⟨rfl, hp⟩)
      all_goals
        go_wp2_with fail
        refine bodyPost_end (results_none rfl _ _ _) rfl ?_
        exact ⟨rfl, hp⟩
  · by_cases hlt : o < (n : Int)
    · have HX : Hid (joinD n fs r o = [(ra, o)]) := by
        show _ = _
        unfold joinD
        rw [HRK.out] at hK
        rw [if_neg (by rw [hK]; decide), if_pos hK, if_pos hlt, HLN.out.1]
      clear hK
      have hjo := HJO.out.1 0 (by rw [HX.out]; exact Nat.zero_lt_one)
      rw [HX.out] at hjo
      have HJ : Hid _ := joinS_any (HM.out.below HBW.out) ra o hjo (by have := HJO.out.2.1; omega) (by have := HJO.out.2.2; omega)
      go_enter Tryz.func64, Tryz.ntmps64
      go_upto_region 1 with fail
      rw [← hW]
      clear hW
      go_wp2_with (go_at_call 62; refine Calls.mono HJ.out ?_; rintro e w2 ⟨rfl, m2, g1, g2, g3⟩)
      refine bodyPost_end (results_none rfl _ _ _) rfl ?_
      exact ⟨rfl, by rw [HX.out]; exact ⟨m2, g1, (SolStep.refl HBW.out sb m s).trans g2, g3⟩⟩
    · have HX : Hid (joinD n fs r o = []) := by
        show _ = _
        unfold joinD
        rw [HRK.out] at hK
        rw [if_neg (by rw [hK]; decide), if_pos hK, if_neg hlt]
      clear hK
      go_enter Tryz.func64, Tryz.ntmps64
      go_upto_region 1 with fail
      rw [← hW]
      clear hW
      go_wp2_with fail
      refine bodyPost_end (results_none rfl _ _ _) rfl ?_
      exact ⟨rfl, by rw [HX.out]; exact JoinsPost.none HM.out HBW.out⟩
  · have HX : Hid (joinD n fs r o = []) := by
      show _ = _
      unfold joinD
      rw [HRK.out] at hK
      rw [if_neg hK.1, if_neg hK.2.2, if_neg hK.2.1]
    clear hK
    go_enter Tryz.func64, Tryz.ntmps64
    go_upto_region 1 with fail
    rw [← hW]
    clear hW
    go_wp2_with fail
    refine bodyPost_end (results_none rfl _ _ _) rfl ?_
    exact ⟨rfl, by rw [HX.out]; exact JoinsPost.none HM.out HBW.out⟩
end Go.Proofs.YtglonlpfnllocaaGreatDoor

/-
  Package solve in memory: a rule more.
-/
namespace Go.Proofs.YtglonlpfnllocaaGreatDoor
open Go.RowKit Go.Extern.Stop Go.Stop Go.Extern Go.Maps

theorem Tryz.infoRuleV : (Tryz.prog.info? 72).map (fun i => (i.zero, i.size, i.bytes)) = some (some (.agg #[.string ⟨#[]⟩, .int .i64 0, .int .i64 0, .int .i64 0, .slice none 0 0]), 5, 64) := by kernel_rfl
theorem SolM.rrowV {w : World} {B sb : Nat} {fs : List FunD} {m : SolB} {s : SolD} (h : SolM w B sb fs m s) (a : Int) : w.ownsRow B TRu 5 (rowV s.rules m.rv a) (s.rules a).length (rcells (s.rules a) (m.ra a)) := by
  by_cases e : s.rules a = []
  · rw [rowV_none e, e]
    exact ⟨rfl, Or.inl ⟨rfl, rfl⟩⟩
  · rw [rowV_some e]
    exact h.rrow a e
theorem rcells_snoc (rs : List RuleD) (avs : List Value) (hl : avs.length = rs.length) (r : RuleD) (av : Value) : rcells (rs ++ [r]) (avs ++ [av]) = rcells rs avs ++ ruleCellsV r av := by
  unfold rcells
  rw [List.length_append, List.length_singleton, List.range_succ, List.map_append, List.flatten_append]
  congr 1
  · congr 1
    refine List.map_congr_left fun j hj => ?_
    have hj' := List.mem_range.1 hj
    rw [getD_snoc_left _ _ _ _ hj', getD_snoc_left _ _ _ _ (by omega)]
  · simp only [List.map_cons, List.map_nil, List.flatten_cons, List.flatten_nil, List.append_nil]
    rw [getD_snoc_last _ _ _ _ rfl, getD_snoc_last _ _ _ _ hl.symm]
/-- A rule more. -/
theorem SolM.addRule {w : World} {B sb : Nat} {fs : List FunD} {m : SolB} {s : SolD} (h : SolM w B sb fs m s) (x : Int) (r : RuleD) (av : Value) (hx : okI x) (hn : m.rn < maxLen) (hl : (s.rules x).length ≤ 1000000) (hone : ∀ v ∈ ruleCellsV r av, v.oneCell' = true)
    (harg : ∀ w', (∀ (k : Nat) (o : Obj), w.heap[k]? = some o → ¬ OwnB sb m s k → w'.heap[k]? = some o) → IsInts w' av r.args) :
    ∃ v' w4 w5, (Builtin.append_ #[61, 61] 61 #[rowV s.rules m.rv x, .slice (some ⟨w.heap.size, 0, none⟩) 1 1]).run Tryz.prog (w.alloc (.cells (ruleCellsV r av).toArray TRu)) = .ok v' w4 ∧
      (Instr.mapUpdate 67 (.map (some m.rb)) (.int .i64 x) v').run Tryz.prog w4 = .ok () w5 ∧
      SolM w5 B sb fs { m with rn := m.rn + 1, rv := updF m.rv x v', ra := updF m.ra x (m.ra x ++ [av]) } { s with rules := updF s.rules x (s.rules x ++ [r]) } ∧
      (∀ (k : Nat) (o : Obj), w.heap[k]? = some o → ¬ OwnB sb m s k → w5.heap[k]? = some o) ∧
      (∀ k, OwnB sb { m with rn := m.rn + 1, rv := updF m.rv x v', ra := updF m.ra x (m.ra x ++ [av]) } { s with rules := updF s.rules x (s.rules x ++ [r]) } k → OwnB sb m s k ∨ w.heap.size ≤ k) ∧
      w5.os = w.os ∧ w5.tape = w.tape ∧ w5.output = w.output ∧ w.heap.size ≤ w5.heap.size ∧
      (∀ (k : Nat) (o : Obj), w.heap[k]? = some o → (rowV s.rules m.rv x).ownBlock ≠ some k → w4.heap[k]? = some o) ∧ w.heap.size ≤ w4.heap.size := by
  have hrow := h.rrowV x
  obtain ⟨v', w4, hr4, ho4, hb4, hkp4, hob⟩ := append_at1 w B (rowV s.rules m.rv x) (s.rules x).length 5 64 61 TRu _ (rcells (s.rules x) (m.ra x)) (ruleCellsV r av) hrow h.size Tryz.underlying61 Tryz.infoRuleV (by decide) rfl rfl hone hl 61 (by decide)
  rw [← rcells_snoc _ _ (h.rlen x)] at ho4
  obtain ⟨es2, cl2, heb⟩ := h.edges.isMap
  obtain ⟨es, cl, hkb⟩ := h.known.isMap
  obtain ⟨es3, cl3, hrb⟩ := h.rules.isMap
  have keep4 : ∀ (k : Nat) (o : Obj), w.heap[k]? = some o → (rowV s.rules m.rv x).ownBlock ≠ some k → w4.heap[k]? = some o := hkp4
  have hrb4 := keep4 _ _ hrb (own_ne_map hrow hrb)
  obtain ⟨w5, hr5, hk5, hg5⟩ := (h.rules.keep (w' := w4) (by rw [hrb, hrb4])).put intKeys Tryz.underlying67 hn x hx v'
  rw [row_put s.rules m.rv x (s.rules x ++ [r]) v' (by simp)] at hk5
  have keep5 : ∀ (k : Nat) (o : Obj), w4.heap[k]? = some o → k ≠ m.rb → w5.heap[k]? = some o := fun k o q hne => KeepBut.of_grown hg5 k o q (fun e => by injection e with e; exact hne e.symm)
  have keep : ∀ (k : Nat) (o : Obj), w.heap[k]? = some o → (rowV s.rules m.rv x).ownBlock ≠ some k → k ≠ m.rb → w5.heap[k]? = some o := fun k o q h1 h2 => keep5 k o (keep4 k o q h1) h2
  have keepR : ∀ {t : TypeId} {k n : Nat} {v : Value} {xs : List Value}, w.ownsRow B t k v n xs → ApartR (rowV s.rules m.rv x) v → w5.ownsRow B t k v n xs := fun {t k n v xs} q hap => by
    refine ⟨q.1, ?_⟩
    rcases q.2 with q1 | ⟨g, cap, cur, rfl, hb, hh, hr⟩
    · exact Or.inl q1
    · refine Or.inr ⟨g, cap, cur, rfl, hb, keep g _ hh (fun e => ?_) (ne_map hh hrb), hr⟩
      rcases hap with q2 | q2
      · cases q2
      · exact q2 e.symm
  have tyR : ∀ {t : TypeId} {k n : Nat} {v : Value} {xs : List Value}, w.ownsRow B t k v n xs → t ≠ TRu → ApartR (rowV s.rules m.rv x) v := fun {t k n v xs} q hne => by
    cases e1 : v.ownBlock with
    | none => exact Or.inl e1
    | some b =>
      right
      intro e2
      obtain ⟨_, ds, hh⟩ := ownBlock_lt q e1
      exact own_ne hrow hh (Ne.symm hne) (by rw [← e2, e1])
  have hsize : w.heap.size ≤ w5.heap.size := Nat.le_trans hb4.size hg5.size
  have rulA : ∀ b, s.rules b ≠ [] → b ≠ x → ApartR (rowV s.rules m.rv x) (m.rv b) := fun b hb hne => row_apart fun e => h.rapart x b e hb (Ne.symm hne)
  have hkeepO : ∀ (k : Nat) (o : Obj), w.heap[k]? = some o → ¬ OwnB sb m s k → w5.heap[k]? = some o := fun k o q hn => keep k o q (fun e => hn (by
    by_cases e2 : s.rules x = []
    · rw [rowV_none e2] at e; cases e
    · rw [rowV_some e2] at e
      exact Or.inr (Or.inr (Or.inr (Or.inr (Or.inr (Or.inr (Or.inr (Or.inr ⟨x, e2, e⟩))))))))) (fun e => hn (Or.inr (Or.inr (Or.inr (Or.inr (Or.inl e))))))
  have hown : ∀ k, OwnB sb { m with rn := m.rn + 1, rv := updF m.rv x v', ra := updF m.ra x (m.ra x ++ [av]) } { s with rules := updF s.rules x (s.rules x ++ [r]) } k → OwnB sb m s k ∨ w.heap.size ≤ k := fun k q => by
    rcases q with q1 | q1 | q1 | q1 | q1 | q1 | q1 | q1 | ⟨a, q1, q2⟩
    · exact Or.inl (Or.inl q1)
    · exact Or.inl (Or.inr (Or.inl q1))
    · exact Or.inl (Or.inr (Or.inr (Or.inl q1)))
    · exact Or.inl (Or.inr (Or.inr (Or.inr (Or.inl q1))))
    · exact Or.inl (Or.inr (Or.inr (Or.inr (Or.inr (Or.inl q1)))))
    · exact Or.inl (Or.inr (Or.inr (Or.inr (Or.inr (Or.inr (Or.inl q1))))))
    · exact Or.inl (Or.inr (Or.inr (Or.inr (Or.inr (Or.inr (Or.inr (Or.inl q1)))))))
    · exact Or.inl (Or.inr (Or.inr (Or.inr (Or.inr (Or.inr (Or.inr (Or.inr (Or.inl q1))))))))
    · have q2' : (updF m.rv x v' a).ownBlock = some k := q2
      have q1' : updF s.rules x (s.rules x ++ [r]) a ≠ [] := q1
      by_cases e : a = x
      · subst e
        rw [updF_same] at q2'
        rcases hob with q3 | q3
        · rw [q3] at q2'
          by_cases e2 : s.rules a = []
          · rw [rowV_none e2] at q2'; cases q2'
          · rw [rowV_some e2] at q2'
            exact Or.inl (Or.inr (Or.inr (Or.inr (Or.inr (Or.inr (Or.inr (Or.inr (Or.inr ⟨a, e2, q2'⟩))))))))
        · exact Or.inr (q3 k q2')
      · rw [updF_other _ _ e] at q1' q2'
        exact Or.inl (Or.inr (Or.inr (Or.inr (Or.inr (Or.inr (Or.inr (Or.inr (Or.inr ⟨a, q1', q2'⟩))))))))
  refine ⟨v', w4, w5, hr4, hr5, ?_, hkeepO, hown, hg5.os.trans hb4.os, hg5.tape.trans hb4.tape, hg5.output.trans hb4.output, hsize, keep4, hb4.size⟩
  have hg := h.has.blk
  have old : ∀ c, c ≠ x → updF s.rules x (s.rules x ++ [r]) c ≠ [] → s.rules c ≠ [] := fun c hc q => by rw [updF_other _ _ hc] at q; exact q
  refine ⟨keep _ _ h.blk (own_ne hrow h.blk (by decide)) (ne_map h.blk hrb), ⟨h.has.low, h.has.lu, keep _ _ hg (own_ne hrow hg (by decide)) (ne_map hg hrb), fun j hj => keepR (h.has.own j hj) (tyR (h.has.own j hj) (by decide)), h.has.apart⟩, keepR h.due (tyR h.due (by decide)), h.known.keep ?_, h.edges.keep ?_, fun a ha => keepR (h.erow a ha) (tyR (h.erow a ha) (by decide)), h.eapart, h.ehas, hk5, fun a ha => ?_, fun a b ha hb hne => ?_, h.maps, fun w2 hw2 => ?_, fun a => ?_⟩
  · rw [hkb]; exact keep _ _ hkb (own_ne_map hrow hkb) h.maps.2.1
  · rw [heb]; exact keep _ _ heb (own_ne_map hrow heb) h.maps.2.2
  · show w5.ownsRow B _ 5 (updF m.rv x v' a) (updF s.rules x (s.rules x ++ [r]) a).length (rcells (updF s.rules x (s.rules x ++ [r]) a) (updF m.ra x (m.ra x ++ [av]) a))
    by_cases e : a = x
    · subst e
      rw [updF_same, updF_same, updF_same, List.length_append, List.length_singleton]
      exact owns_keepBut ho4 (KeepBut.of_grown hg5) (Or.inr (own_ne_map ho4 hrb4))
    · have ha' := old a e ha
      rw [updF_other _ _ e, updF_other _ _ e, updF_other _ _ e]
      exact keepR (h.rrow a ha') (rulA a ha' e)
  · show ApartR (updF m.rv x v' a) (updF m.rv x v' b)
    by_cases e1 : a = x
    · have e2 : b ≠ x := fun q => hne (e1.trans q.symm)
      have hb' := old b e2 hb
      rw [e1, updF_same, updF_other _ _ e2]
      exact apart_new hob (h.rrow b hb') (rulA b hb' e2)
    · have ha' := old a e1 ha
      rw [updF_other _ _ e1]
      by_cases e2 : b = x
      · rw [e2, updF_same]
        exact (apart_new hob (h.rrow a ha') (rulA a ha' e1)).symm
      · rw [updF_other _ _ e2]
        exact h.rapart a b ha' (old b e2 hb) hne
  · have hk2 : ∀ (k : Nat) (o : Obj), w.heap[k]? = some o → ¬ OwnB sb m s k → w2.heap[k]? = some o := fun k o q hn => hw2 k o (hkeepO k o q hn) fun q2 => by
      rcases hown k q2 with q3 | q3
      · exact hn q3
      · exact absurd (Array.getElem?_eq_some_iff.1 q).1 (Nat.not_lt.2 q3)
    have hr := h.ro w2 hk2
    refine ⟨hr.funs, fun a j hj => ?_⟩
    have hj' : j < (updF s.rules x (s.rules x ++ [r]) a).length := hj
    show IsInts w2 ((updF m.ra x (m.ra x ++ [av]) a).getD j .nilIface) ((updF s.rules x (s.rules x ++ [r]) a).getD j default).args
    by_cases e : a = x
    · subst e
      rw [updF_same] at hj' ⊢
      rw [updF_same]
      rw [List.length_append, List.length_singleton] at hj'
      have hla := h.rlen a
      by_cases e2 : j < (s.rules a).length
      · rw [getD_snoc_left _ _ _ _ e2, getD_snoc_left _ _ _ _ (by omega)]
        exact hr.args a j e2
      · rw [getD_snoc_last _ _ _ _ (by omega), getD_snoc_last _ _ _ _ (by omega)]
        exact harg w2 hk2
    · rw [updF_other _ _ e] at hj' ⊢
      rw [updF_other _ _ e]
      exact hr.args a j hj'
  · show (updF m.ra x (m.ra x ++ [av]) a).length = (updF s.rules x (s.rules x ++ [r]) a).length
    by_cases e : a = x
    · rw [e, updF_same, updF_same, List.length_append, List.length_append, h.rlen x]
      rfl
    · rw [updF_other _ _ e, updF_other _ _ e]
      exact h.rlen a
end Go.Proofs.YtglonlpfnllocaaGreatDoor

/-
  Package solve in memory: a rule is obeyed: base and copy.
-/
namespace Go.Proofs.YtglonlpfnllocaaGreatDoor
open Go.RowKit Go.Extern.Stop Go.Stop Go.Extern Go.Maps

set_option maxRecDepth 100000 in
set_option maxHeartbeats 8000000 in
theorem obeyS_base {w : World} {B sb : Nat} {fs : List FunD} {m : SolB} {s : SolD} (h : SolM w B sb fs m s) (n : Nat) (r : RuleD) (av : Value) (hk : r.kind = kBase) (hf : okF (r.a, r.b)) (hn : m.kn < maxLen) (hl : s.due.length ≤ 1000000) :
    Calls Tryz.prog 28 #[.pointer (some ⟨sb, 0, none⟩), .agg #[.string (S r.kind), .int .i64 r.a, .int .i64 r.b, .int .i64 r.stmt, av]] w fun e w' => e = .returned (.tuple #[]) ∧ ∃ m', SolM w' B sb fs m' (s.obey n fs r) ∧ SolStep w w' sb m m' s (s.obey n fs r) ∧ m'.kn ≤ m.kn + 1 ∧ m'.en = m.en ∧ m'.rn = m.rn := by
  have ho : s.obey n fs r = s.await (r.a, r.b) := by unfold SolD.obey; rw [if_pos hk]
  rw [ho]
  obtain ⟨kd, hkd⟩ : ∃ kd, kd = S r.kind := ⟨_, rfl⟩
  have hkl : (kd = (⟨#[98, 97, 115, 101]⟩ : ByteArray)) := by rw [hkd, hk]; rfl
  obtain ⟨ra, hra⟩ : ∃ z, z = r.a := ⟨_, rfl⟩
  obtain ⟨rb, hrb⟩ : ∃ z, z = r.b := ⟨_, rfl⟩
  rw [← hkd, ← hra, ← hrb]
  rw [← hra, ← hrb] at hf
  obtain ⟨W, hW⟩ : ∃ W, W = w.alloc (ruleBox kd ra rb r.stmt av) := ⟨_, rfl⟩
  have hBW : Below w.heap.size w W := by rw [hW]; exact below1 w _
  have HBW : Hid (Below w.heap.size w W) := hBW
  have HFB : Hid (W.heap[w.heap.size]? = some (ruleBox kd ra rb r.stmt av)) := by show _ = _; rw [hW]; exact heap_new w _
  have c0 : W.cell? ⟨w.heap.size, 0, none⟩ = some (.string kd) := by rw [Lib.cell_of_heap HFB.out]; rfl
  have c1 : W.cell? ⟨w.heap.size, 1, none⟩ = some (.int .i64 ra) := by rw [Lib.cell_of_heap HFB.out]; rfl
  have c2 : W.cell? ⟨w.heap.size, 2, none⟩ = some (.int .i64 rb) := by rw [Lib.cell_of_heap HFB.out]; rfl
  have HA : Hid _ := (h.below hBW).awaitC (ra, rb) hf hn hl
  clear h hkd hk hra hrb hf hn hl hBW ho
  subst hkl
  go_enter Tryz.func28, Tryz.ntmps28
  go_upto_region 1 with fail
  rw [← hW]
  clear hW
  go_wp2_with (go_at_call 61; refine Calls.mono HA.out ?_; rintro e w2 ⟨rfl, m2, g1, g2, g3, g4, g5, -⟩)
  refine bodyPost_end (results_none rfl _ _ _) rfl ?_
  exact ⟨rfl, m2, g1, (SolStep.refl HBW.out sb m s).trans g2, by omega, g4, g5⟩
set_option maxRecDepth 100000 in
set_option maxHeartbeats 8000000 in
theorem obeyS_copy {w : World} {B sb : Nat} {fs : List FunD} {m : SolB} {s : SolD} (h : SolM w B sb fs m s) (n : Nat) (r : RuleD) (av : Value) (hk : r.kind = kCopy) (hj : JoinOk s (r.a, r.b)) (hkn : m.kn + 1000000 < maxLen) (hen : m.en < maxLen) :
    Calls Tryz.prog 28 #[.pointer (some ⟨sb, 0, none⟩), .agg #[.string (S r.kind), .int .i64 r.a, .int .i64 r.b, .int .i64 r.stmt, av]] w fun e w' => e = .returned (.tuple #[]) ∧ JoinsPost w B sb fs m s (s.obey n fs r) 1 w' := by
  have ho : s.obey n fs r = s.join (r.a, r.b) := by unfold SolD.obey; rw [if_neg (by rw [hk]; decide), if_pos hk]
  rw [ho]
  obtain ⟨kd, hkd⟩ : ∃ kd, kd = S r.kind := ⟨_, rfl⟩
  have hkl : (kd = (⟨#[99, 111, 112, 121]⟩ : ByteArray)) := by rw [hkd, hk]; rfl
  obtain ⟨ra, hra⟩ : ∃ z, z = r.a := ⟨_, rfl⟩
  obtain ⟨rb, hrb⟩ : ∃ z, z = r.b := ⟨_, rfl⟩
  rw [← hkd, ← hra, ← hrb]
  rw [← hra, ← hrb] at hj
  obtain ⟨W, hW⟩ : ∃ W, W = w.alloc (ruleBox kd ra rb r.stmt av) := ⟨_, rfl⟩
  have hBW : Below w.heap.size w W := by rw [hW]; exact below1 w _
  have HBW : Hid (Below w.heap.size w W) := hBW
  have HFB : Hid (W.heap[w.heap.size]? = some (ruleBox kd ra rb r.stmt av)) := by show _ = _; rw [hW]; exact heap_new w _
  have c0 : W.cell? ⟨w.heap.size, 0, none⟩ = some (.string kd) := by rw [Lib.cell_of_heap HFB.out]; rfl
  have c1 : W.cell? ⟨w.heap.size, 1, none⟩ = some (.int .i64 ra) := by rw [Lib.cell_of_heap HFB.out]; rfl
  have c2 : W.cell? ⟨w.heap.size, 2, none⟩ = some (.int .i64 rb) := by rw [Lib.cell_of_heap HFB.out]; rfl
  have HA : Hid _ := joinS_any (h.below hBW) ra rb hj hkn hen
  clear h hkd hk hra hrb hj hkn hen hBW ho
  subst hkl
  go_enter Tryz.func28, Tryz.ntmps28
  go_upto_region 1 with fail
  rw [← hW]
  clear hW
  go_wp2_with (go_at_call 62; refine Calls.mono HA.out ?_; rintro e w2 ⟨rfl, m2, g1, g2, g3⟩)
  refine bodyPost_end (results_none rfl _ _ _) rfl ?_
  exact ⟨rfl, m2, g1, (SolStep.refl HBW.out sb m s).trans g2, g3⟩
end Go.Proofs.YtglonlpfnllocaaGreatDoor

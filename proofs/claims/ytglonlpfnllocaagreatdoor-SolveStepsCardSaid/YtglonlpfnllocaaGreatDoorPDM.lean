/-
  Package prog: twice, funNames, checkNames, checkFuns, by contracts.
-/
import Derived.Test.YtglonlpfnllocaaGreatDoorXBM
import Derived.Test.YtglonlpfnllocaaGreatDoorShelf
import Derived.Deep.OwnRows
namespace Go.Proofs.YtglonlpfnllocaaGreatDoor
open Go.RowKit Go.Extern.Stop Go.Stop Go.Extern

/-- The three of package api's errors that a cell of their own holds, by number. -/
structure Errs5 (w : World) (a : Nat → Addr) : Prop where
  c1 : w.cell? ⟨5, 0, none⟩ = some (.iface 221 (.pointer (some (a 1))))
  c2 : w.cell? ⟨6, 0, none⟩ = some (.iface 221 (.pointer (some (a 2))))
  c3 : w.cell? ⟨1, 0, none⟩ = some (.iface 221 (.pointer (some (a 3))))
  c4 : w.cell? ⟨2, 0, none⟩ = some (.iface 221 (.pointer (some (a 4))))
  c6 : w.cell? ⟨3, 0, none⟩ = some (.iface 221 (.pointer (some (a 6))))
  c7 : w.cell? ⟨0, 0, none⟩ = some (.iface 221 (.pointer (some (a 7))))
  c8 : w.cell? ⟨4, 0, none⟩ = some (.iface 221 (.pointer (some (a 8))))
theorem Errs.five {w : World} {a : Nat → Addr} (h : Errs w a) : Errs5 w a := ⟨h.c1, h.c2, h.c3, h.c4, h.c6, h.c7, h.c8⟩
theorem Errs5.below {w w' : World} {a : Nat → Addr} (h : Errs5 w a) (hb : Below w.heap.size w w') : Errs5 w' a :=
  ⟨cell_keep hb h.c1, cell_keep hb h.c2, cell_keep hb h.c3, cell_keep hb h.c4, cell_keep hb h.c6, cell_keep hb h.c7, cell_keep hb h.c8⟩
/-- A bare error's value. -/
def errV (a : Nat → Addr) : Option Nat → Value
  | none => .nilIface
  | some i => .iface 221 (.pointer (some (a i)))

theorem dup_snoc {α : Type} [BEq α] [LawfulBEq α] (l : List α) (x : α) : dup (l ++ [x]) = (dup l || l.contains x) := by
  induction l with
  | nil => rfl
  | cons y r ih =>
    rw [List.cons_append, dup, dup, ih]
    rw [Bool.eq_iff_iff]
    simp only [Bool.or_eq_true, List.contains_iff_mem, List.mem_append, List.mem_cons, List.not_mem_nil, or_false]
    constructor
    · rintro ((h | h) | h | h)
      · exact Or.inl (Or.inl h)
      · exact Or.inr (Or.inl h.symm)
      · exact Or.inl (Or.inr h)
      · exact Or.inr (Or.inr h)
    · rintro ((h | h) | h | h)
      · exact Or.inl (Or.inl h)
      · exact Or.inr (Or.inl h)
      · exact Or.inl (Or.inr h.symm)
      · exact Or.inr (Or.inr h)
theorem dup_append {α : Type} [BEq α] [LawfulBEq α] (l m : List α) (h : dup l = true) : dup (l ++ m) = true := by
  induction l with
  | nil => cases h
  | cons y r ih =>
    rw [dup, Bool.or_eq_true] at h
    rw [List.cons_append, dup, Bool.or_eq_true]
    rcases h with h | h
    · left
      rw [List.contains_iff_mem] at h ⊢
      exact List.mem_append_left _ h
    · right; exact ih h
theorem dup_take {α : Type} [BEq α] [LawfulBEq α] (l : List α) (d : α) (k : Nat) (h : k < l.length) : dup (l.take (k + 1)) = (dup (l.take k) || (l.take k).contains (l.getD k d)) := by
  rw [List.take_succ_eq_append_getElem h, dup_snoc]
  simp [List.getD, h]
theorem dup_of_take {α : Type} [BEq α] [LawfulBEq α] (l : List α) (k : Nat) (h : dup (l.take k) = true) : dup l = true := by
  have := dup_append (l.take k) (l.drop k) h
  rwa [List.take_append_drop] at this

theorem containsS_map (l : List Bs) (x : Bs) : Lib.containsS (l.map S) (S x) = l.contains x := by
  rw [Bool.eq_iff_iff, List.contains_iff_mem]
  unfold Lib.containsS
  rw [decide_eq_true_eq, Lib.idxOfS_nonneg_iff, List.mem_map]
  constructor
  · rintro ⟨y, hy, e⟩
    rw [← S_inj e]; exact hy
  · exact fun h => ⟨x, h, rfl⟩
theorem getD_mapS (l : List Bs) (j : Nat) (h : j < l.length) : (l.map S).getD j ByteArray.empty = S (l.getD j []) := by
  simp [List.getD, h]
theorem containsS_take (ss : List Bs) (b o c k : Nat) (x : Bs) (w : World) (hk : k ≤ ss.length) (hm : ss.length ≤ 1000000) (hc : ∀ j, j < ss.length → w.cell? ⟨b, o + j, none⟩ = some (.string (S (ss.getD j [])))) :
    Calls Tryz.prog 98 #[.slice (some ⟨b, o, none⟩) k c, .string (S x)] w fun e w' => e = .returned (.bool ((ss.take k).contains x)) ∧ w' = w := by
  have := Tryz.slices_Contains_string b o k c (ss.map S) (S x) w (by rw [List.length_map]; exact hk) (by omega) (fun j hj => by
    rw [List.length_map] at hj
    rw [getD_mapS ss j hj]; exact hc j hj)
  rw [← List.map_take, containsS_map] at this
  exact this

set_option maxHeartbeats 2000000 in
theorem twiceS (ss : List Bs) (v : Value) (w : World) (hm : ss.length ≤ 1000000) (h : IsStrs w v ss) :
    Calls Tryz.prog 70 #[v] w fun e w' => e = .returned (.bool (dup ss)) ∧ w' = w := by
  obtain ⟨a, c, rfl, hcp, hc⟩ := h
  have HC : Hid (∀ j, j < ss.length → ∃ b o, a = some ⟨b, o, none⟩ ∧ w.cell? ⟨b, o + j, none⟩ = some (.string (S (ss.getD j [])))) := hc
  clear hc
  obtain ⟨B, hBe⟩ : ∃ B, B = dup ss := ⟨_, rfl⟩
  rw [← hBe]
  have HB : Hid (B = dup ss) := hBe
  clear hBe
  generalize hn : ss.length = n at *
  have HN : Hid (ss.length = n) := hn
  clear hn
  go_enter Tryz.func70, Tryz.ntmps70
  go_wp2_with fail
  go_loopw [7] (fun t wr => ∃ k : Nat, k ≤ n ∧ t = .int .i64 k ∧ dup (ss.take k) = false ∧ wr = w) (fun t _ => (n - intOf t).toNat)
  case atStart => exact ⟨0, Nat.zero_le _, rfl, rfl, rfl⟩
  case round =>
    obtain ⟨k, hk, rfl, hall, hwr⟩ := hrel
    obtain rfl := hwr.symm
    have HA : Hid (dup (ss.take k) = false) := hall
    clear hall
    by_cases hlt : k < n
    · have hl : k < ss.length := by rw [HN.out]; exact hlt
      obtain ⟨b, o, rfl, e0⟩ := HC.out k hlt
      have hk1 := dup_take ss [] k hl
      have HD : Hid (Calls Tryz.prog 98 #[.slice (some ⟨b, o, none⟩) k c, .string (S (ss.getD k []))] w fun e w' => e = .returned (.bool ((ss.take k).contains (ss.getD k []))) ∧ w' = w) :=
        containsS_take ss b o c k _ w (by omega) (by rw [HN.out]; exact hm) (fun j hj => by
          obtain ⟨b', o', e1, e2⟩ := HC.out j (by rw [← HN.out]; exact hj)
          cases e1
          exact e2)
      have HK : Hid (dup (ss.take (k + 1)) = (ss.take k).contains (ss.getD k [])) := by
        show dup (ss.take (k + 1)) = _
        rw [hk1, HA.out]; rfl
      clear hk1 hl
      obtain ⟨z, hze⟩ : ∃ z, z = ss.getD k [] := ⟨_, rfl⟩
      rw [← hze] at e0 HD HK
      clear hze
      obtain ⟨q, hq⟩ : ∃ q, q = (ss.take k).contains z := ⟨_, rfl⟩
      rw [← hq] at HD HK
      clear hq
      have hkc : k ≤ c := by omega
      cases q with
      | true =>
        have HX : Hid (B = true) := by
          show B = true
          rw [HB.out]; exact dup_of_take ss (k + 1) HK.out
        go_wp2_with fail
        refine HD.out.mono ?_
        rintro e w1 ⟨rfl, hw⟩
        obtain rfl := hw.symm
        go_wp2_with fail
        go_ret
        exact ⟨by rw [HX.out]; rfl, rfl⟩
      | false =>
        go_wp2_with fail
        refine HD.out.mono ?_
        rintro e w1 ⟨rfl, hw⟩
        obtain rfl := hw.symm
        go_wp2_with fail
        go_roundw
        case rel => exact ⟨k + 1, hlt, by go_num, HK.out, trivial⟩
        case measure => simp [intOf]; omega
    · have HX : Hid (B = false) := by
        show B = false
        have hkn : k = ss.length := by rw [HN.out]; omega
        have := HA.out
        rw [hkn, List.take_length] at this
        rw [HB.out]; exact this
      go_wp2_with fail
      go_ret
      exact ⟨by rw [HX.out]; rfl, rfl⟩

set_option maxHeartbeats 2000000 in
theorem twiceI (ss : List Int) (v : Value) (w : World) (hm : ss.length ≤ 1000000) (h : IsCap w v ss) :
    Calls Tryz.prog 77 #[v] w fun e w' => e = .returned (.bool (dup ss)) ∧ w' = w := by
  obtain ⟨hi, a, c, rfl, hcp⟩ := h
  have HC : Hid (IsInts w (.slice a ss.length c) ss) := hi
  clear hi
  obtain ⟨B, hBe⟩ : ∃ B, B = dup ss := ⟨_, rfl⟩
  rw [← hBe]
  have HB : Hid (B = dup ss) := hBe
  clear hBe
  generalize hn : ss.length = n at *
  have HN : Hid (ss.length = n) := hn
  clear hn
  go_enter Tryz.func77, Tryz.ntmps77
  go_wp2_with fail
  go_loopw [7] (fun t wr => ∃ k : Nat, k ≤ n ∧ t = .int .i64 k ∧ dup (ss.take k) = false ∧ wr = w) (fun t _ => (n - intOf t).toNat)
  case atStart => exact ⟨0, Nat.zero_le _, rfl, rfl, rfl⟩
  case round =>
    obtain ⟨k, hk, rfl, hall, hwr⟩ := hrel
    obtain rfl := hwr.symm
    have HA : Hid (dup (ss.take k) = false) := hall
    clear hall
    by_cases hlt : k < n
    · have hl : k < ss.length := by rw [HN.out]; exact hlt
      obtain ⟨b, o, rfl, e0⟩ := isInts_at HC.out k hl
      have hk1 := dup_take ss 0 k hl
      have HD : Hid (Calls Tryz.prog 89 #[.slice (some ⟨b, o, none⟩) k c, .int .i64 (ss.getD k 0)] w fun e w' => e = .returned (.bool ((ss.take k).contains (ss.getD k 0))) ∧ w' = w) :=
        Tryz.slices_Contains_int b o k c ss _ w (by omega) (by omega) (fun j hj => by
          obtain ⟨b', o', e1, e2⟩ := isInts_at HC.out j hj
          cases e1
          exact e2)
      have HK : Hid (dup (ss.take (k + 1)) = (ss.take k).contains (ss.getD k 0)) := by
        show dup (ss.take (k + 1)) = _
        rw [hk1, HA.out]; rfl
      clear hk1 hl
      obtain ⟨z, hze⟩ : ∃ z, z = ss.getD k 0 := ⟨_, rfl⟩
      rw [← hze] at e0 HD HK
      clear hze
      obtain ⟨q, hq⟩ : ∃ q, q = (ss.take k).contains z := ⟨_, rfl⟩
      rw [← hq] at HD HK
      clear hq
      have hkc : k ≤ c := by omega
      cases q with
      | true =>
        have HX : Hid (B = true) := by
          show B = true
          rw [HB.out]; exact dup_of_take ss (k + 1) HK.out
        go_wp2_with fail
        refine HD.out.mono ?_
        rintro e w1 ⟨rfl, hw⟩
        obtain rfl := hw.symm
        go_wp2_with fail
        go_ret
        exact ⟨by rw [HX.out]; rfl, rfl⟩
      | false =>
        go_wp2_with fail
        refine HD.out.mono ?_
        rintro e w1 ⟨rfl, hw⟩
        obtain rfl := hw.symm
        go_wp2_with fail
        go_roundw
        case rel => exact ⟨k + 1, hlt, by go_num, HK.out, trivial⟩
        case measure => simp [intOf]; omega
    · have HX : Hid (B = false) := by
        show B = false
        have hkn : k = ss.length := by rw [HN.out]; omega
        have := HA.out
        rw [hkn, List.take_length] at this
        rw [HB.out]; exact this
      go_wp2_with fail
      go_ret
      exact ⟨by rw [HX.out]; rfl, rfl⟩

set_option maxHeartbeats 2000000 in
theorem checkNames_any (a : Nat → Addr) (vs fs : List Bs) (v1 v2 : Value) (w : World) (hm1 : vs.length ≤ 1000000) (hm2 : fs.length ≤ 1000000) (h1 : IsStrs w v1 vs) (h2 : IsStrs w v2 fs) (hE : Errs5 w a) :
    Calls Tryz.prog 34 #[v1, v2] w fun e w' => e = .returned (errV a (namesE vs fs)) ∧ Below w.heap.size w w' := by
  have H1 : Hid (IsStrs w v1 vs) := h1
  have H2 : Hid (IsStrs w v2 fs) := h2
  have HE : Hid (Errs5 w a) := hE
  have HK : Hid (Calls Tryz.prog 68 #[v1, .func (Fn.func 69) #[] #[]] w fun e w' => e = .returned (.bool (vs.all isNm)) ∧ Below w.heap.size w w') := allS vs v1 w hm1 h1
  obtain ⟨a1, c1, rfl, _, _⟩ := h1
  obtain ⟨a2, c2, rfl, _, _⟩ := h2
  clear hE
  cases q1 : vs.all isNm with
  | false =>
    rw [q1] at HK
    have hr : namesE vs fs = some 4 := by unfold namesE; rw [q1]; rfl
    rw [hr]
    clear hr q1
    go_enter Tryz.func34, Tryz.ntmps34
    go_wp2_with fail
    refine HK.out.mono ?_
    rintro e w1 ⟨rfl, hB⟩
    have e4 := (HE.out.below hB).c4
    go_wp2_with fail
    go_ret
    exact ⟨rfl, hB⟩
  | true =>
    rw [q1] at HK
    cases q2 : fs.all isNm with
    | false =>
      have hr : namesE vs fs = some 4 := by unfold namesE; rw [q1, q2]; rfl
      rw [hr]
      have Q2 : Hid (fs.all isNm = false) := q2
      clear hr q1 q2
      go_enter Tryz.func34, Tryz.ntmps34
      go_wp2_with fail
      refine HK.out.mono ?_
      rintro e w1 ⟨rfl, hB⟩
      go_wp2_with fail
      refine (allS fs _ w1 hm2 (H2.out.below hB)).mono ?_
      rintro e w2 ⟨rfl, hB2⟩
      rw [Q2.out]
      have hBw := hB.trans (hB2.mono hB.size)
      have e4 := (HE.out.below hBw).c4
      clear hB hB2
      go_wp2_with fail
      go_ret
      exact ⟨rfl, hBw⟩
    | true =>
      have Q2 : Hid (fs.all isNm = true) := q2
      obtain ⟨D1, hD1⟩ : ∃ D, D = dup vs := ⟨_, rfl⟩
      obtain ⟨D2, hD2⟩ : ∃ D, D = dup fs := ⟨_, rfl⟩
      have hr : namesE vs fs = if (D1 || D2) = true then some 6 else none := by unfold namesE; rw [q1, q2, ← hD1, ← hD2]; rfl
      rw [hr]
      have Q3 : Hid (D1 = dup vs) := hD1
      have Q4 : Hid (D2 = dup fs) := hD2
      clear hr q1 q2 hD1 hD2
      cases D1 with
      | true =>
        go_enter Tryz.func34, Tryz.ntmps34
        go_wp2_with fail
        refine HK.out.mono ?_
        rintro e w1 ⟨rfl, hB⟩
        go_wp2_with fail
        refine (allS fs _ w1 hm2 (H2.out.below hB)).mono ?_
        rintro e w2 ⟨rfl, hB2⟩
        rw [Q2.out]
        have hBw := hB.trans (hB2.mono hB.size)
        have e4 := (HE.out.below hBw).c6
        clear hB hB2
        go_wp2_with fail
        refine (twiceS vs _ w2 hm1 (H1.out.below hBw)).mono ?_
        rintro e w3 ⟨rfl, hw⟩
        obtain rfl := hw.symm
        rw [← Q3.out]
        go_wp2_with fail
        go_ret
        exact ⟨rfl, hBw⟩
      | false =>
        cases D2 with
        | true =>
          go_enter Tryz.func34, Tryz.ntmps34
          go_wp2_with fail
          refine HK.out.mono ?_
          rintro e w1 ⟨rfl, hB⟩
          go_wp2_with fail
          refine (allS fs _ w1 hm2 (H2.out.below hB)).mono ?_
          rintro e w2 ⟨rfl, hB2⟩
          rw [Q2.out]
          have hBw := hB.trans (hB2.mono hB.size)
          have e4 := (HE.out.below hBw).c6
          clear hB hB2
          go_wp2_with fail
          refine (twiceS vs _ w2 hm1 (H1.out.below hBw)).mono ?_
          rintro e w3 ⟨rfl, hw⟩
          obtain rfl := hw.symm
          rw [← Q3.out]
          go_wp2_with fail
          refine (twiceS fs _ w2 hm2 (H2.out.below hBw)).mono ?_
          rintro e w3 ⟨rfl, hw⟩
          obtain rfl := hw.symm
          rw [← Q4.out]
          go_wp2_with fail
          go_ret
          exact ⟨rfl, hBw⟩
        | false =>
          go_enter Tryz.func34, Tryz.ntmps34
          go_wp2_with fail
          refine HK.out.mono ?_
          rintro e w1 ⟨rfl, hB⟩
          go_wp2_with fail
          refine (allS fs _ w1 hm2 (H2.out.below hB)).mono ?_
          rintro e w2 ⟨rfl, hB2⟩
          rw [Q2.out]
          have hBw := hB.trans (hB2.mono hB.size)
          clear hB hB2
          go_wp2_with fail
          refine (twiceS vs _ w2 hm1 (H1.out.below hBw)).mono ?_
          rintro e w3 ⟨rfl, hw⟩
          obtain rfl := hw.symm
          rw [← Q3.out]
          go_wp2_with fail
          refine (twiceS fs _ w2 hm2 (H2.out.below hBw)).mono ?_
          rintro e w3 ⟨rfl, hw⟩
          obtain rfl := hw.symm
          rw [← Q4.out]
          go_wp2_with fail
          go_ret
          exact ⟨rfl, hBw⟩
end Go.Proofs.YtglonlpfnllocaaGreatDoor

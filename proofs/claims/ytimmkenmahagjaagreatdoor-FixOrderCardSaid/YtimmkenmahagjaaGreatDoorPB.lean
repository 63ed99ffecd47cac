/-
  Package prog: isName, below, all, by contracts.
-/
import Derived.Test.YtimmkenmahagjaaGreatDoorPA
namespace Go.Proofs.YtimmkenmahagjaaGreatDoor
open Go.RowKit Go.Extern.Stop Go.Stop Go.Extern

theorem S_idx (l : Bs) (k : Nat) (hk : k < (S l).size) : (S l)[k] = l.getD k 0 := by
  have hl : k < l.length := by rw [← S_size]; exact hk
  show l.toArray[k] = _
  simp [List.getD, hl]
theorem eqS (a b : Bs) : ((S a).toList == (S b).toList) = (a == b) := by rw [S_toList, S_toList]
theorem all_take_succ {α : Type} (p : α → Bool) (l : List α) (d : α) (k : Nat) (h : k < l.length) : (l.take (k + 1)).all p = ((l.take k).all p && p (l.getD k d)) := by
  rw [List.take_succ_eq_append_getElem h, List.all_append]
  simp [List.getD, h]
theorem all_not_of_at {α : Type} (p : α → Bool) (l : List α) (d : α) (k : Nat) (h : k < l.length) (hp : p (l.getD k d) = false) : l.all p = false := by
  cases e : l.all p with
  | false => rfl
  | true => rw [all_at e k d h] at hp; cases hp

def nmTail (l : Bs) : Bool := !(l == kVar) && !(l == kFn) && !(l == kNew) && !(l == kCall)

theorem isNm_eq (l : Bs) : isNm l = (!l.isEmpty && decide (l.length ≤ 8) && isLet (l.headD 0) && l.all nmC && nmTail l) := by
  unfold isNm nmTail
  simp only [Bool.and_assoc]
  rfl
theorem headD_data (s : ByteArray) (h : 0 < s.size) : s.data.toList.headD 0 = s[0] := by
  have hl : 0 < s.data.toList.length := by rw [← Lib.size_eq]; exact h
  rw [List.headD_eq_head?_getD, List.head?_eq_getElem?, List.getElem?_eq_getElem hl]
  rfl
theorem isEmpty_iff (s : ByteArray) : s.toList.isEmpty = decide (s.size = 0) := by
  rw [Lib.toList_data, Lib.size_eq]
  cases s.data.toList <;> simp
theorem getD_data (s : ByteArray) (k : Nat) (h : k < s.size) : s.data.toList.getD k 0 = s[k] := by
  have hl : k < s.data.toList.length := by rw [← Lib.size_eq]; exact h
  simp only [List.getD, List.getElem?_eq_getElem hl, Option.getD_some]
  rfl

set_option maxHeartbeats 4000000 in
theorem isName_s (s : ByteArray) (w : World) : Calls Tryz.prog 94 #[.string s] w fun e w' => e = .returned (.bool (isNm s.data.toList)) ∧ w' = w := by
  have he := isEmpty_iff s
  have hq := isNm_eq s.data.toList
  by_cases h0 : s.size = 0
  · have e0 : s.toList.isEmpty = true := by rw [he]; simp [h0]
    have hr : isNm s.data.toList = false := by
      rw [hq]
      have : s.data.toList = [] := List.eq_nil_of_length_eq_zero (by rw [← Lib.size_eq]; exact h0)
      rw [this]; rfl
    rw [hr]
    clear he hq h0 hr
    go_enter Tryz.func94, Tryz.ntmps94
    go_wp2
    go_ret
    exact ⟨rfl, rfl⟩
  have e0 : s.toList.isEmpty = false := by rw [he]; simp [h0]
  have hpos : 0 < s.size := by omega
  clear he
  by_cases h8 : 8 < (s.size : Int)
  · have hr : isNm s.data.toList = false := by
      have : decide (s.data.toList.length ≤ 8) = false := decide_eq_false (by rw [← Lib.size_eq]; omega)
      rw [hq, this]; simp
    rw [hr]
    clear hq hr h0
    go_enter Tryz.func94, Tryz.ntmps94
    go_wp2
    go_ret
    exact ⟨rfl, rfl⟩
  have hd0 := headD_data s hpos
  cases hl : isLet s[0] with
  | false =>
    have hr : isNm s.data.toList = false := by rw [hq, hd0, hl]; simp
    rw [hr]
    have hc := isLetter_any s[0] w
    rw [hl] at hc
    have HC : Hid (Calls Tryz.prog 126 #[.int .u8 (s[0].toNat : Int)] w fun e w' => e = .returned (.bool false) ∧ w' = w) := hc
    clear hq hr h0 hd0 hl hc
    go_enter Tryz.func94, Tryz.ntmps94
    go_wp2_with fail
    refine HC.out.mono ?_
    rintro e w1 ⟨rfl, hw⟩
    obtain rfl := hw.symm
    go_wp2_with fail
    go_ret
    exact ⟨rfl, rfl⟩
  | true =>
    have HQ : Hid (isNm s.data.toList = (s.data.toList.all nmC && nmTail s.data.toList)) := by
      show isNm s.data.toList = _
      have h1 : s.data.toList.isEmpty = false := by rw [← Lib.toList_data]; exact e0
      have h2 : decide (s.data.toList.length ≤ 8) = true := decide_eq_true (by rw [← Lib.size_eq]; omega)
      rw [hq, hd0, hl, h1, h2]; simp
    obtain ⟨B, hB⟩ : ∃ B, B = isNm s.data.toList := ⟨_, rfl⟩
    rw [← hB] at HQ ⊢
    have hc := isLetter_any s[0] w
    rw [hl] at hc
    have HC : Hid (Calls Tryz.prog 126 #[.int .u8 (s[0].toNat : Int)] w fun e w' => e = .returned (.bool true) ∧ w' = w) := hc
    clear hq h0 hd0 hl hc hB
    go_enter Tryz.func94, Tryz.ntmps94
    go_wp2_with fail
    refine HC.out.mono ?_
    rintro e w1 ⟨rfl, hw⟩
    obtain rfl := hw.symm
    clear HC
    go_wp2_with fail
    go_loopw [19] (fun t wr => ∃ k : Nat, k ≤ s.size ∧ t = .int .i64 k ∧ wr = w ∧ (s.data.toList.take k).all nmC = true) (fun t _ => s.size - (intOf t).toNat)
    case atStart => exact ⟨0, Nat.zero_le _, rfl, rfl, rfl⟩
    case round =>
      obtain ⟨k, hk, rfl, hwr, hall⟩ := hrel
      obtain rfl := hwr.symm
      have HA : Hid ((s.data.toList.take k).all nmC = true) := hall
      clear hall
      by_cases hlt : k < s.size
      · have hg := getD_data s k hlt
        have H1 := isLetter_any s[k] w
        have H2 := isDigit_any s[k] w
        have hkl : k < s.data.toList.length := by rw [← Lib.size_eq]; exact hlt
        have HN : Hid ((s.data.toList.take (k + 1)).all nmC = nmC (s[k]'hlt)) := by
          show (s.data.toList.take (k + 1)).all nmC = nmC (s[k]'hlt)
          rw [all_take_succ nmC _ 0 k hkl, HA.out, hg]; rfl
        have HF : Hid (nmC (s[k]'hlt) = false → s.data.toList.all nmC = false) := fun g => all_not_of_at nmC _ 0 k hkl (by rw [hg]; exact g)
        clear hg hkl
        cases hl : isLet s[k] with
        | true =>
          have HX : Hid ((s.data.toList.take (k + 1)).all nmC = true) := by
            show (s.data.toList.take (k + 1)).all nmC = true
            rw [HN.out]; unfold nmC; rw [hl]; rfl
          rw [hl] at H1
          have HC : Hid (Calls Tryz.prog 126 #[.int .u8 (s[k].toNat : Int)] w fun e w' => e = .returned (.bool true) ∧ w' = w) := H1
          clear hl H1 H2 HN HF
          go_wp2_with fail
          refine HC.out.mono ?_
          rintro e w1 ⟨rfl, hw⟩
          obtain rfl := hw.symm
          clear HC
          go_wp2_with fail
          go_roundw
          case rel => exact ⟨k + 1, hlt, by go_num, trivial, HX.out⟩
          case measure => simp [intOf]; omega
        | false =>
          rw [hl] at H1
          have HC : Hid (Calls Tryz.prog 126 #[.int .u8 (s[k].toNat : Int)] w fun e w' => e = .returned (.bool false) ∧ w' = w) := H1
          cases hd : isDig s[k] with
          | true =>
            have HX : Hid ((s.data.toList.take (k + 1)).all nmC = true) := by
              show (s.data.toList.take (k + 1)).all nmC = true
              rw [HN.out]; unfold nmC; rw [hd]; simp
            rw [hd] at H2
            have HD : Hid (Calls Tryz.prog 127 #[.int .u8 (s[k].toNat : Int)] w fun e w' => e = .returned (.bool true) ∧ w' = w) := H2
            clear hl hd H1 H2 HN HF
            go_wp2_with fail
            refine HC.out.mono ?_
            rintro e w1 ⟨rfl, hw⟩
            obtain rfl := hw.symm
            go_wp2_with fail
            refine HD.out.mono ?_
            rintro e w1 ⟨rfl, hw⟩
            obtain rfl := hw.symm
            clear HC HD
            go_wp2_with fail
            go_roundw
            case rel => exact ⟨k + 1, hlt, by go_num, trivial, HX.out⟩
            case measure => simp [intOf]; omega
          | false =>
            have HX : Hid (B = false) := by
              show B = false
              rw [HQ.out, HF.out (by unfold nmC; rw [hl, hd]; rfl)]; rfl
            rw [hd] at H2
            have HD : Hid (Calls Tryz.prog 127 #[.int .u8 (s[k].toNat : Int)] w fun e w' => e = .returned (.bool false) ∧ w' = w) := H2
            clear hl hd H1 H2 HN HF
            go_wp2_with fail
            refine HC.out.mono ?_
            rintro e w1 ⟨rfl, hw⟩
            obtain rfl := hw.symm
            go_wp2_with fail
            refine HD.out.mono ?_
            rintro e w1 ⟨rfl, hw⟩
            obtain rfl := hw.symm
            clear HC HD
            go_wp2_with fail
            go_ret
            exact ⟨by rw [HX.out]; rfl, rfl⟩
      · have HX : Hid (B = nmTail s.data.toList) := by
          show B = _
          have hks : k = s.data.toList.length := by rw [← Lib.size_eq]; omega
          have := HA.out
          rw [hks, List.take_length] at this
          rw [HQ.out, this]; simp
        clear HA HQ
        have ht : ∀ x : Bs, s.toList = x → (s.data.toList == x) = true := fun x h => by rw [← Lib.toList_data, h]; exact beq_self_eq_true x
        have hf : ∀ x : Bs, ¬ s.toList = x → (s.data.toList == x) = false := fun x h => beq_eq_false_iff_ne.2 (fun e => h (by rw [Lib.toList_data]; exact e))
        by_cases h1 : s.toList = [118, 97, 114]
        · have hb : Hid (B = false) := by show B = false; rw [HX.out]; unfold nmTail; rw [ht kVar h1]; rfl
          clear HX ht hf
          go_wp2_with fail
          go_ret
          exact ⟨by rw [hb.out]; rfl, rfl⟩
        by_cases h2 : s.toList = [102, 110]
        · have hb : Hid (B = false) := by show B = false; rw [HX.out]; unfold nmTail; rw [ht kFn h2]; simp
          clear HX ht hf
          go_wp2_with fail
          go_ret
          exact ⟨by rw [hb.out]; rfl, rfl⟩
        by_cases h3 : s.toList = [110, 101, 119]
        · have hb : Hid (B = false) := by show B = false; rw [HX.out]; unfold nmTail; rw [ht kNew h3]; simp
          clear HX ht hf
          go_wp2_with fail
          go_ret
          exact ⟨by rw [hb.out]; rfl, rfl⟩
        by_cases h4 : s.toList = [99, 97, 108, 108]
        · have hb : Hid (B = false) := by show B = false; rw [HX.out]; unfold nmTail; rw [ht kCall h4]; simp
          clear HX ht hf
          go_wp2_with fail
          go_ret
          exact ⟨by rw [hb.out]; rfl, rfl⟩
        have hb : Hid (B = true) := by show B = true; rw [HX.out]; unfold nmTail; rw [hf kVar h1, hf kFn h2, hf kNew h3, hf kCall h4]; rfl
        have g1 : (s.toList == [118, 97, 114]) = false := beq_eq_false_iff_ne.2 h1
        have g2 : (s.toList == [102, 110]) = false := beq_eq_false_iff_ne.2 h2
        have g3 : (s.toList == [110, 101, 119]) = false := beq_eq_false_iff_ne.2 h3
        have g4 : (s.toList == [99, 97, 108, 108]) = false := beq_eq_false_iff_ne.2 h4
        clear HX ht hf h1 h2 h3 h4
        go_wp2_with fail
        go_ret
        exact ⟨by rw [hb.out]; rfl, rfl⟩
theorem isName_any (l : Bs) (w : World) : Calls Tryz.prog 94 #[.string (S l)] w fun e w' => e = .returned (.bool (isNm l)) ∧ w' = w := by
  have := isName_s (S l) w
  rwa [S_data] at this

/-- below's function: the number lies in a cell. -/
theorem below1_any (n : Nat) (k : Int) (pb : Nat) (w : World) (h : w.cell? ⟨pb, 0, none⟩ = some (.int .i64 (n : Int))) :
    Calls Tryz.prog 129 #[.int .i64 k, .pointer (some ⟨pb, 0, none⟩)] w fun e w' => e = .returned (.bool (decide (0 ≤ k) && decide (k < (n : Int)))) ∧ w' = w := by
  by_cases h0 : 0 ≤ k
  · by_cases h1 : k < (n : Int)
    · have e : (decide (0 ≤ k) && decide (k < (n : Int))) = true := by simp [h0, h1]
      rw [e]; clear e
      go_enter Tryz.func129, Tryz.ntmps129
      go_wp2
      go_ret
      exact ⟨rfl, rfl⟩
    · have e : (decide (0 ≤ k) && decide (k < (n : Int))) = false := by simp [h1]
      rw [e]; clear e
      go_enter Tryz.func129, Tryz.ntmps129
      go_wp2
      go_ret
      exact ⟨rfl, rfl⟩
  · have e : (decide (0 ≤ k) && decide (k < (n : Int))) = false := by simp [h0]
    rw [e]; clear e
    go_enter Tryz.func129, Tryz.ntmps129
    go_wp2
    go_ret
    exact ⟨rfl, rfl⟩
/-- below. -/
theorem below_any (n : Nat) (w : World) : Calls Tryz.prog 96 #[.int .i64 (n : Int)] w fun e w' => e = .returned (.func (Fn.func 129) #[] #[.pointer (some ⟨w.heap.size, 0, none⟩)]) ∧ w' = w.alloc (.cells #[.int .i64 (n : Int)] 3) := by
  go_enter Tryz.func96, Tryz.ntmps96
  go_wp2
  go_ret
  exact ⟨rfl, rfl⟩

set_option maxHeartbeats 2000000 in
/-- slices.IndexFunc at strings, with the function that all makes. -/
theorem indexFuncS (p : Bs → Bool) (ss : List Bs) (v : Value) (pb : Nat) (w : World) (hm : ss.length ≤ 1000000) (h : IsStrs w v ss)
    (hcl : ∀ wr x, Below w.heap.size w wr → Calls Tryz.prog 125 #[.string (S x), .pointer (some ⟨pb, 0, none⟩)] wr fun e w' => e = .returned (.bool (p x)) ∧ Below wr.heap.size wr w') :
    Calls Tryz.prog 148 #[v, .func (Fn.func 125) #[] #[.pointer (some ⟨pb, 0, none⟩)]] w fun e w' => ∃ r : Int, e = .returned (.int .i64 r) ∧ ((0 ≤ r ∧ ss.any p = true) ∨ (r = -1 ∧ ss.any p = false)) ∧ Below w.heap.size w w' := by
  have HCL : Hid (∀ wr x, Below w.heap.size w wr → Calls Tryz.prog 125 #[.string (S x), .pointer (some ⟨pb, 0, none⟩)] wr fun e w' => e = .returned (.bool (p x)) ∧ Below wr.heap.size wr w') := hcl
  clear hcl
  obtain ⟨a, c, rfl, hcp, hc⟩ := h
  clear hcp
  have HC : Hid (∀ j, j < ss.length → ∃ b o, a = some ⟨b, o, none⟩ ∧ w.cell? ⟨b, o + j, none⟩ = some (.string (S (ss.getD j [])))) := hc
  clear hc
  generalize hn : ss.length = n at *
  have HN : Hid (ss.length = n) := hn
  clear hn
  go_enter Tryz.func148, Tryz.ntmps148
  go_wp2_with fail
  go_loopw [8] (fun t wr => ∃ k : Nat, k ≤ n ∧ t = .int .i64 k ∧ (ss.take k).any p = false ∧ Below w.heap.size w wr) (fun t _ => (n - intOf t).toNat)
  case atStart => exact ⟨0, Nat.zero_le _, rfl, rfl, Below.refl _ _⟩
  case round =>
    obtain ⟨k, hk, rfl, hall, hB⟩ := hrel
    have HA : Hid ((ss.take k).any p = false) := hall
    clear hall
    by_cases hlt : k < n
    · obtain ⟨b, o, rfl, e0⟩ := HC.out k hlt
      have e1 := cell_keep hB e0
      obtain ⟨z, hze⟩ : ∃ z, z = ss.getD k [] := ⟨_, rfl⟩
      rw [← hze] at e1
      have HZ : Hid (z = ss.getD k []) := hze
      clear hze e0
      have hl : k < ss.length := by rw [HN.out]; exact hlt
      have hany : (ss.take (k + 1)).any p = p z := by
        rw [List.take_succ_eq_append_getElem hl, List.any_append, HA.out]
        simp [HZ.out, List.getD, hl]
      have hat : p z = true → ss.any p = true := fun g => List.any_eq_true.2 ⟨ss[k], List.getElem_mem hl, by rw [HZ.out] at g; simpa [List.getD, hl] using g⟩
      have HY : Hid ((ss.take (k + 1)).any p = p z ∧ (p z = true → ss.any p = true)) := ⟨hany, hat⟩
      clear hl hany hat
      go_wp2_with fail
      refine (HCL.out wr z hB).mono ?_
      rintro e w1 ⟨rfl, hB1⟩
      have hBw : Below w.heap.size w w1 := hB.trans (hB1.mono hB.size)
      clear hB1
      cases hpz : p z with
      | true =>
        have HP : Hid (ss.any p = true) := HY.out.2 hpz
        clear hpz
        go_wp2_with fail
        go_ret
        exact ⟨k, rfl, Or.inl ⟨by omega, HP.out⟩, hBw⟩
      | false =>
        have HP : Hid ((ss.take (k + 1)).any p = false) := by
          show (ss.take (k + 1)).any p = false
          rw [HY.out.1]; exact hpz
        clear hpz
        go_wp2_with fail
        go_roundw
        case rel => exact ⟨k + 1, hlt, by go_num, HP.out, hBw⟩
        case measure => simp [intOf]; omega
    · go_wp2_with fail
      go_ret
      refine ⟨-1, rfl, Or.inr ⟨rfl, ?_⟩, hB⟩
      have hkn : k = ss.length := by rw [HN.out]; omega
      have := HA.out
      rw [hkn, List.take_length] at this
      exact this
end Go.Proofs.YtimmkenmahagjaaGreatDoor

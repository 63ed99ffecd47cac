/-
  The document's answers on programs: IsName, Has, HasText, isVar, areVars of package fingerpostref1, by contracts.
-/
import Derived.Test.YtakmmpbkojhmhaaGreatDoorPI
import Derived.Lib.QuietBelow
import Derived.Deep.DeepCutAuto
import Derived.Test.YtakmmpbkojhmhaaGreatDoorPMem
namespace Go.Proofs.YtakmmpbkojhmhaaGreatDoor
open Go.RowKit Go.Extern.Stop Go.Stop Go.Extern

theorem isLet_t {c : UInt8} (h1 : (97 : Int) ≤ (c.toNat : Int)) (h2 : (c.toNat : Int) ≤ 122) : isLet c = true := by unfold isLet; simp; omega
theorem isLet_f1 {c : UInt8} (h : ¬ (97 : Int) ≤ (c.toNat : Int)) : isLet c = false := by unfold isLet; simp; omega
theorem isLet_f2 {c : UInt8} (h : ¬ (c.toNat : Int) ≤ 122) : isLet c = false := by unfold isLet; simp; omega
theorem isDig_t {c : UInt8} (h1 : (48 : Int) ≤ (c.toNat : Int)) (h2 : (c.toNat : Int) ≤ 57) : isDig c = true := by unfold isDig; simp; omega
theorem isDig_f1 {c : UInt8} (h : ¬ (48 : Int) ≤ (c.toNat : Int)) : isDig c = false := by unfold isDig; simp; omega
theorem isDig_f2 {c : UInt8} (h : ¬ (c.toNat : Int) ≤ 57) : isDig c = false := by unfold isDig; simp; omega
theorem ge48_of {c : UInt8} (h : (97 : Int) ≤ (c.toNat : Int)) : (48 : Int) ≤ (c.toNat : Int) := by omega
theorem not57_of {c : UInt8} (h : (97 : Int) ≤ (c.toNat : Int)) : ¬ (c.toNat : Int) ≤ 57 := by omega
theorem not122_of {c : UInt8} (h : (c.toNat : Int) ≤ 57) : ¬ (97 : Int) ≤ (c.toNat : Int) := by omega

set_option maxRecDepth 100000 in
set_option maxHeartbeats 4000000 in
theorem refName_s (s : ByteArray) (w : World) (hs : s.size ≤ 1000000) : Calls Tryz.prog 61 #[.string s] w fun e w' => e = .returned (.bool (isNm s.data.toList)) ∧ w' = w := by
  have hq := isNm_eq s.data.toList
  have hz := Lib.size_eq s
  obtain ⟨B, hB⟩ : ∃ B, B = isNm s.data.toList := ⟨_, rfl⟩
  rw [← hB] at hq ⊢
  have HQ : Hid (B = (!s.data.toList.isEmpty && decide (s.data.toList.length ≤ 8) && isLet (s.data.toList.headD 0) && s.data.toList.all nmC && nmTail s.data.toList)) := hq
  have ht : ∀ x : Bs, s.toList = x → (s.data.toList == x) = true := fun x h => by rw [← Lib.toList_data, h]; exact beq_self_eq_true x
  have hf : ∀ x : Bs, ¬ s.toList = x → (s.data.toList == x) = false := fun x h => beq_eq_false_iff_ne.2 (fun e => h (by rw [Lib.toList_data]; exact e))
  clear hB hq
  by_cases h1 : s.toList = [118, 97, 114]
  · have hb : Hid (B = false) := by show B = false; rw [HQ.out]; unfold nmTail; rw [ht kVar h1]; simp
    clear ht hf hz
    go_enter Tryz.func61, Tryz.ntmps61
    go_wp2_with fail
    go_ret
    exact ⟨by rw [hb.out]; rfl, rfl⟩
  have g1 : (s.toList == [118, 97, 114]) = false := beq_eq_false_iff_ne.2 h1
  by_cases h2 : s.toList = [102, 110]
  · have hb : Hid (B = false) := by show B = false; rw [HQ.out]; unfold nmTail; rw [ht kFn h2]; simp
    clear ht hf h1 hz
    go_enter Tryz.func61, Tryz.ntmps61
    go_wp2_with fail
    go_ret
    exact ⟨by rw [hb.out]; rfl, rfl⟩
  have g2 : (s.toList == [102, 110]) = false := beq_eq_false_iff_ne.2 h2
  by_cases h3 : s.toList = [110, 101, 119]
  · have hb : Hid (B = false) := by show B = false; rw [HQ.out]; unfold nmTail; rw [ht kNew h3]; simp
    clear ht hf h1 h2 hz
    go_enter Tryz.func61, Tryz.ntmps61
    go_wp2_with fail
    go_ret
    exact ⟨by rw [hb.out]; rfl, rfl⟩
  have g3 : (s.toList == [110, 101, 119]) = false := beq_eq_false_iff_ne.2 h3
  by_cases h4 : s.toList = [99, 97, 108, 108]
  · have hb : Hid (B = false) := by show B = false; rw [HQ.out]; unfold nmTail; rw [ht kCall h4]; simp
    clear ht hf h1 h2 h3 hz
    go_enter Tryz.func61, Tryz.ntmps61
    go_wp2_with fail
    go_ret
    exact ⟨by rw [hb.out]; rfl, rfl⟩
  have g4 : (s.toList == [99, 97, 108, 108]) = false := beq_eq_false_iff_ne.2 h4
  have HT : Hid (nmTail s.data.toList = true) := by
    show nmTail s.data.toList = true
    unfold nmTail; rw [hf kVar h1, hf kFn h2, hf kNew h3, hf kCall h4]; rfl
  clear ht hf h1 h2 h3 h4
  have HZ : Hid (s.size = s.data.toList.length) := hz
  clear hz
  go_enter Tryz.func61, Tryz.ntmps61
  go_wp2_with fail
  clear g1 g2 g3 g4
  go_loopw [3] (fun t wr => ∃ k : Nat, k ≤ s.size ∧ t = .int .i64 k ∧ wr = w ∧ (s.data.toList.take k).all nmC = true ∧ (0 < k → isLet (s.data.toList.headD 0) = true)) (fun t _ => s.size - (intOf t).toNat)
  case atStart => exact ⟨0, Nat.zero_le _, rfl, rfl, rfl, fun h => absurd h (by omega)⟩
  case round =>
    obtain ⟨k, hk, rfl, hwr, hall, hhd⟩ := hrel
    obtain rfl := hwr.symm
    have HA : Hid ((s.data.toList.take k).all nmC = true ∧ (0 < k → isLet (s.data.toList.headD 0) = true)) := ⟨hall, hhd⟩
    clear hall hhd hwr
    by_cases hlt : k < s.size
    · have hg := getD_data s k hlt
      have hkl : k < s.data.toList.length := by rw [← HZ.out]; exact hlt
      have HN : Hid (nmC (s[k]'hlt) = true → (k = 0 → isLet (s[k]'hlt) = true) → (s.data.toList.take (k + 1)).all nmC = true ∧ (0 < k + 1 → isLet (s.data.toList.headD 0) = true)) := fun hc h0 => by
        refine ⟨by rw [all_take_succ nmC _ 0 k hkl, HA.out.1, hg, hc]; rfl, fun _ => ?_⟩
        by_cases hk0 : k = 0
        · have := h0 hk0
          subst hk0
          rw [headD_data s hlt]; exact this
        · exact HA.out.2 (by omega)
      have HF : Hid (nmC (s[k]'hlt) = false → B = false) := fun g => by
        rw [HQ.out, all_not_of_at nmC _ 0 k hkl (by rw [hg]; exact g)]; simp
      have HF0 : Hid (k = 0 → isLet (s[k]'hlt) = false → B = false) := fun h0 g => by
        subst h0
        rw [HQ.out, headD_data s hlt, g]; simp
      clear hg hkl
      by_cases c1 : (97 : Int) ≤ (s[k].toNat : Int)
      · by_cases c2 : (s[k].toNat : Int) ≤ 122
        · have c3 : (48 : Int) ≤ (s[k].toNat : Int) := ge48_of c1
          have c4 : ¬ (s[k].toNat : Int) ≤ 57 := not57_of c1
          have HX : Hid ((s.data.toList.take (k + 1)).all nmC = true ∧ (0 < k + 1 → isLet (s.data.toList.headD 0) = true)) := HN.out (by unfold nmC; rw [isLet_t c1 c2]; rfl) (fun _ => isLet_t c1 c2)
          clear HN HF HF0
          go_wp2_with fail
          go_roundw
          case rel => exact ⟨k + 1, hlt, by go_num, trivial, HX.out⟩
          case measure => simp [intOf]; omega
        · have c3 : (48 : Int) ≤ (s[k].toNat : Int) := ge48_of c1
          have c4 : ¬ (s[k].toNat : Int) ≤ 57 := not57_of c1
          have HX : Hid (B = false) := HF.out (by unfold nmC; rw [isLet_f2 c2, isDig_f2 c4]; rfl)
          clear HN HF HF0
          go_wp2_with fail
          go_ret
          exact ⟨by rw [HX.out]; rfl, rfl⟩
      · by_cases c3 : (48 : Int) ≤ (s[k].toNat : Int)
        · by_cases c4 : (s[k].toNat : Int) ≤ 57
          · by_cases hk0 : k = 0
            · have HX : Hid (B = false) := HF0.out hk0 (isLet_f1 c1)
              clear HN HF HF0
              subst hk0
              go_wp2_with fail
              go_ret
              exact ⟨by rw [HX.out]; rfl, rfl⟩
            · have hk1 : ¬ (k : Int) = 0 := by omega
              have HX : Hid ((s.data.toList.take (k + 1)).all nmC = true ∧ (0 < k + 1 → isLet (s.data.toList.headD 0) = true)) := HN.out (by unfold nmC; rw [isDig_t c3 c4]; simp) (fun h => absurd h hk0)
              clear HN HF HF0
              go_wp2_with fail
              go_roundw
              case rel => exact ⟨k + 1, hlt, by go_num, trivial, HX.out⟩
              case measure => simp [intOf]; omega
          · have HX : Hid (B = false) := HF.out (by unfold nmC; rw [isLet_f1 c1, isDig_f2 c4]; rfl)
            clear HN HF HF0
            go_wp2_with fail
            go_ret
            exact ⟨by rw [HX.out]; rfl, rfl⟩
        · have HX : Hid (B = false) := HF.out (by unfold nmC; rw [isLet_f1 c1, isDig_f1 c3]; rfl)
          clear HN HF HF0
          go_wp2_with fail
          go_ret
          exact ⟨by rw [HX.out]; rfl, rfl⟩
    · have hks : k = s.data.toList.length := by rw [← HZ.out]; omega
      have ha := HA.out.1
      rw [hks, List.take_length] at ha
      by_cases h0 : (1 : Int) ≤ (s.size : Int)
      · have hh := HA.out.2 (by have := HZ.out; omega)
        have hne : s.data.toList.isEmpty = false := by
          cases he : s.data.toList with
          | nil =>
            have h9 := HZ.out
            rw [he] at h9
            have h10 : s.size = 0 := h9
            omega
          | cons x r => rfl
        by_cases h8 : (s.size : Int) ≤ 8
        · have HX : Hid (B = true) := by
            show B = true
            rw [HQ.out, ha, hh, hne, HT.out, decide_eq_true (by rw [← HZ.out]; omega)]; rfl
          clear hks ha hh hne
          go_wp2_with fail
          go_ret
          exact ⟨by rw [HX.out]; rfl, rfl⟩
        · have HX : Hid (B = false) := by
            show B = false
            rw [HQ.out, decide_eq_false (by rw [← HZ.out]; omega)]; simp
          clear hks ha hh hne
          go_wp2_with fail
          go_ret
          exact ⟨by rw [HX.out]; rfl, rfl⟩
      · have HX : Hid (B = false) := by
          show B = false
          have : s.data.toList = [] := List.eq_nil_of_length_eq_zero (by rw [← HZ.out]; omega)
          rw [HQ.out, this]; rfl
        clear hks ha
        go_wp2_with fail
        go_ret
        exact ⟨by rw [HX.out]; rfl, rfl⟩
theorem refName_any (l : Bs) (w : World) (hs : l.length ≤ 1000000) : Calls Tryz.prog 61 #[.string (S l)] w fun e w' => e = .returned (.bool (isNm l)) ∧ w' = w := by
  have := refName_s (S l) w (by rw [S_size]; exact hs)
  rwa [S_data] at this

set_option maxHeartbeats 2000000 in
/-- HasText. -/
theorem refHasText_any (ss : List Bs) (x : Bs) (v : Value) (w : World) (hm : ss.length ≤ 1000000) (h : IsStrs w v ss) : Calls Tryz.prog 98 #[v, .string (S x)] w fun e w' => e = .returned (.bool (ss.contains x)) ∧ w' = w := by
  obtain ⟨a, c, rfl, -, hc⟩ := h
  have HC : Hid (∀ j, j < ss.length → ∃ b o, a = some ⟨b, o, none⟩ ∧ w.cell? ⟨b, o + j, none⟩ = some (.string (S (ss.getD j [])))) := hc
  obtain ⟨R, hR⟩ : ∃ R, R = ss.contains x := ⟨_, rfl⟩
  rw [← hR]
  have HR : Hid (R = ss.contains x) := hR
  clear hc hR
  obtain ⟨n, hn⟩ : ∃ n, n = ss.length := ⟨_, rfl⟩
  have HN : Hid (n = ss.length) := hn
  rw [← hn] at hm ⊢
  obtain ⟨bx, hbx⟩ : ∃ b, b = S x := ⟨_, rfl⟩
  have HX : Hid (bx = S x) := hbx
  rw [← hbx]
  clear hn hbx
  go_enter Tryz.func98, Tryz.ntmps98
  go_wp2_with fail
  go_loopw [5] (fun t wr => ∃ k : Nat, k ≤ n ∧ t = .int .i64 k ∧ wr = w ∧ (ss.take k).contains x = false) (fun t _ => (n - intOf t).toNat)
  case atStart => exact ⟨0, Nat.zero_le _, rfl, rfl, rfl⟩
  case round =>
    obtain ⟨k, hk, rfl, hwr, hall⟩ := hrel
    obtain rfl := hwr.symm
    have HA : Hid ((ss.take k).contains x = false) := hall
    clear hall hwr
    by_cases hlt : k < n
    · have hl : k < ss.length := by rw [← HN.out]; exact hlt
      obtain ⟨b, o, rfl, e0⟩ := HC.out k hl
      obtain ⟨y, hy⟩ : ∃ y, y = ss.getD k [] := ⟨_, rfl⟩
      obtain ⟨by_, hby⟩ : ∃ b, b = S y := ⟨_, rfl⟩
      rw [← hy, ← hby] at e0
      have hmem : y ∈ ss := by rw [hy]; simp [List.getD, hl]
      have htk : ss.take (k + 1) = ss.take k ++ [y] := by rw [List.take_add_one, hy]; simp [List.getD, hl]
      by_cases he : y = x
      · have hb : Hid (R = true) := by show R = true; rw [HR.out]; rw [he] at hmem; exact List.contains_iff_mem.2 hmem
        have hbe : (by_.toList == bx.toList) = true := by rw [hby, HX.out, he]; exact beq_self_eq_true _
        have hbe2 : by_.toList = bx.toList := eq_of_beq hbe
        have hbe3 : by_ = bx := by rw [hby, HX.out, he]
        subst hbe3
        clear hl hy hby hmem htk he hbe hbe2
        go_wp2_with fail
        go_ret
        exact ⟨by rw [hb.out]; rfl, rfl⟩
      · have hn2 : Hid ((ss.take (k + 1)).contains x = false) := by
          show (ss.take (k + 1)).contains x = false
          rw [htk]
          have h1 := HA.out
          simp only [List.contains_eq_mem, decide_eq_false_iff_not] at h1 ⊢
          simp only [List.mem_append, List.mem_singleton, not_or]
          exact ⟨h1, fun q => he q.symm⟩
        have hbe : (by_.toList == bx.toList) = false := beq_eq_false_iff_ne.2 (fun q => he (by rw [hby, HX.out, S_toList, S_toList] at q; exact q))
        clear hl hy hby hmem htk he
        go_wp2_with fail
        go_roundw
        case rel => exact ⟨k + 1, hlt, by go_num, trivial, hn2.out⟩
        case measure => simp [intOf]; omega
    · have hb : Hid (R = false) := by
        show R = false
        have := HA.out
        rw [show k = ss.length by rw [← HN.out]; omega, List.take_length] at this
        rw [HR.out, this]
      go_wp2_with fail
      go_ret
      exact ⟨by rw [hb.out]; rfl, rfl⟩

set_option maxHeartbeats 2000000 in
/-- isVar. -/
theorem refIsVar_any (P : ProgD) (n : Int) (v1 v2 v3 : Value) (w : World) (h : IsProg w v1 v2 v3 P) : Calls Tryz.prog 63 #[.agg #[v1, v2, v3], .int .i64 n] w fun e w' => e = .returned (.bool (varB P n)) ∧ Below w.heap.size w w' := by
  obtain ⟨⟨a1, c1, rfl, -, -⟩, ⟨a2, c2, rfl, -, -⟩, ⟨a3, c3, rfl, -, -⟩⟩ := h
  by_cases g1 : 0 ≤ n
  · by_cases g2 : n < (P.vars.length : Int)
    · have e : varB P n = true := by unfold varB; simp [g1, g2]
      rw [e]; clear e
      generalize P.vars.length = m1 at *
      go_enter Tryz.func63, Tryz.ntmps63
      go_wp2_with fail
      go_ret
      exact ⟨rfl, below1 _ _⟩
    · have e : varB P n = false := by unfold varB; simp [g2]
      rw [e]; clear e
      generalize P.vars.length = m1 at *
      go_enter Tryz.func63, Tryz.ntmps63
      go_wp2_with fail
      go_ret
      exact ⟨rfl, below1 _ _⟩
  · have e : varB P n = false := by unfold varB; simp [g1]
    rw [e]; clear e
    go_enter Tryz.func63, Tryz.ntmps63
    go_wp2_with fail
    go_ret
    exact ⟨rfl, below1 _ _⟩
end Go.Proofs.YtakmmpbkojhmhaaGreatDoor

/-
  The document's place of a text in a list, by a contract.
-/
namespace Go.Proofs.YtakmmpbkojhmhaaGreatDoor
open Go.RowKit Go.Extern.Stop Go.Stop Go.Extern

theorem idxFrom_is (l : List Bs) (x : Bs) (i k : Nat) (hk : k < l.length) (h : ∀ j, j < k → l.getD j [] ≠ x) (he : l.getD k [] = x) : idxFrom i l x = ((i + k : Nat) : Int) := by
  induction l generalizing i k with
  | nil => simp at hk
  | cons z r ih =>
    unfold idxFrom
    cases k with
    | zero =>
      have : z = x := by simpa [List.getD] using he
      rw [if_pos this]; rfl
    | succ k =>
      have hz : ¬ z = x := by simpa [List.getD] using h 0 (by omega)
      rw [if_neg hz]
      have := ih (i + 1) k (by simpa using hk) (fun j hj => by simpa [List.getD] using h (j + 1) (by omega)) (by simpa [List.getD] using he)
      rw [this, show i + 1 + k = i + (k + 1) by omega]
theorem idxFrom_no (l : List Bs) (x : Bs) (i : Nat) (h : ∀ j, j < l.length → l.getD j [] ≠ x) : idxFrom i l x = -1 := by
  induction l generalizing i with
  | nil => rfl
  | cons z r ih =>
    unfold idxFrom
    have hz : ¬ z = x := by simpa [List.getD] using h 0 (by simp)
    rw [if_neg hz]
    exact ih (i + 1) (fun j hj => by simpa [List.getD] using h (j + 1) (by simpa using hj))

set_option maxHeartbeats 2000000 in
theorem refPlaceOf_any (ss : List Bs) (x : Bs) (v : Value) (w : World) (hm : ss.length ≤ 1000000) (h : IsStrs w v ss) : Calls Tryz.prog 148 #[v, .string (S x)] w fun e w' => e = .returned (.int .i64 (idx ss x)) ∧ w' = w := by
  obtain ⟨a, c, rfl, -, hc⟩ := h
  have HC : Hid (∀ j, j < ss.length → ∃ b o, a = some ⟨b, o, none⟩ ∧ w.cell? ⟨b, o + j, none⟩ = some (.string (S (ss.getD j [])))) := hc
  obtain ⟨R, hR⟩ : ∃ R, R = idx ss x := ⟨_, rfl⟩
  rw [← hR]
  have HR : Hid (R = idx ss x) := hR
  clear hc hR
  obtain ⟨n, hn⟩ : ∃ n, n = ss.length := ⟨_, rfl⟩
  have HN : Hid (n = ss.length) := hn
  rw [← hn] at hm ⊢
  obtain ⟨bx, hbx⟩ : ∃ b, b = S x := ⟨_, rfl⟩
  have HX : Hid (bx = S x) := hbx
  rw [← hbx]
  clear hn hbx
  go_enter Tryz.func148, Tryz.ntmps148
  go_wp2_with fail
  go_loopw [5] (fun t wr => ∃ k : Nat, k ≤ n ∧ t = .int .i64 k ∧ wr = w ∧ ∀ j, j < k → ss.getD j [] ≠ x) (fun t _ => (n - intOf t).toNat)
  case atStart => exact ⟨0, Nat.zero_le _, rfl, rfl, fun j hj => absurd hj (Nat.not_lt_zero _)⟩
  case round =>
    obtain ⟨k, hk, rfl, hwr, hall⟩ := hrel
    obtain rfl := hwr.symm
    have HA : Hid (∀ j, j < k → ss.getD j [] ≠ x) := hall
    clear hall hwr
    by_cases hlt : k < n
    · have hl : k < ss.length := by rw [← HN.out]; exact hlt
      obtain ⟨b, o, rfl, e0⟩ := HC.out k hl
      obtain ⟨y, hy⟩ : ∃ y, y = ss.getD k [] := ⟨_, rfl⟩
      obtain ⟨by_, hby⟩ : ∃ b, b = S y := ⟨_, rfl⟩
      rw [← hy, ← hby] at e0
      by_cases he : y = x
      · have hb : Hid (R = (k : Int)) := by
          show R = _
          rw [HR.out]
          unfold idx
          rw [idxFrom_is ss x 0 k hl HA.out (by rw [← hy]; exact he), Nat.zero_add]
        have hbe : by_ = bx := by rw [hby, HX.out, he]
        subst hbe
        clear hl hy hby he
        go_wp2_with fail
        go_ret
        exact ⟨by rw [hb.out]; rfl, rfl⟩
      · have hn2 : Hid (∀ j, j < k + 1 → ss.getD j [] ≠ x) := fun j hj => by
          rcases Nat.lt_succ_iff_lt_or_eq.1 hj with q | q
          · exact HA.out j q
          · rw [q, ← hy]; exact he
        have hbe : (by_.toList == bx.toList) = false := beq_eq_false_iff_ne.2 (fun q => he (by rw [hby, HX.out, S_toList, S_toList] at q; exact q))
        clear hl hy hby he
        go_wp2_with fail
        go_roundw
        case rel => exact ⟨k + 1, hlt, by go_num, trivial, hn2.out⟩
        case measure => simp [intOf]; omega
    · have hb : Hid (R = -1) := by
        show R = -1
        rw [HR.out]
        exact idxFrom_no ss x 0 (fun j hj => HA.out j (by rw [← HN.out] at hj; omega))
      go_wp2_with fail
      go_ret
      exact ⟨by rw [hb.out]; rfl, rfl⟩
end Go.Proofs.YtakmmpbkojhmhaaGreatDoor

/-
  The document's starts, by a contract.
-/
namespace Go.Proofs.YtakmmpbkojhmhaaGreatDoor
open Go.RowKit Go.Extern.Stop Go.Stop Go.Extern

theorem prefix_take (s p : Bs) : (s.take p.length == p) = Lib.hasPrefix s p := by
  unfold Lib.hasPrefix
  rw [Bool.eq_iff_iff, List.isPrefixOf_iff_prefix, List.prefix_iff_eq_take, beq_iff_eq]
  exact ⟨fun h => h.symm, fun h => h.symm⟩
theorem refStarts_any (s p : Bs) (w : World) : Calls Tryz.prog 115 #[.string (S s), .string (S p)] w fun e w' => e = .returned (.bool (Lib.hasPrefix s p)) ∧ w' = w := by
  have h1 := S_size s
  have h2 := S_size p
  have hx : (((S s).extract 0 (S p).size).toList == (S p).toList) = Lib.hasPrefix s p := by
    rw [Lib.toList_data, Lib.extract_data, S_data, S_toList, h2, ← prefix_take]
    simp
  have hsh : p.length > s.length → Lib.hasPrefix s p = false := fun g => by
    rw [← prefix_take]
    refine beq_eq_false_iff_ne.2 (fun q => ?_)
    have := congrArg List.length q
    rw [List.length_take] at this
    omega
  obtain ⟨D, hD⟩ : ∃ D, D = Lib.hasPrefix s p := ⟨_, rfl⟩
  obtain ⟨bs, hbs⟩ : ∃ b, b = S s := ⟨_, rfl⟩
  obtain ⟨bp, hbp⟩ : ∃ b, b = S p := ⟨_, rfl⟩
  rw [← hbs, ← hbp, ← hD] at hx
  rw [← hD] at hsh
  rw [← hbs] at h1
  rw [← hbp] at h2
  rw [← hbs, ← hbp, ← hD]
  by_cases g : (bp.size : Int) ≤ (bs.size : Int)
  · have g2 : bp.size ≤ bs.size := by omega
    clear hsh hD hbs hbp h1 h2
    go_enter Tryz.func115, Tryz.ntmps115
    go_wp2_with fail
    go_ret
    exact ⟨rfl, rfl⟩
  · have hb : Hid (D = false) := hsh (by omega)
    clear hsh hD hbs hbp h1 h2 hx
    go_enter Tryz.func115, Tryz.ntmps115
    go_wp2_with fail
    go_ret
    exact ⟨by rw [hb.out]; rfl, rfl⟩
end Go.Proofs.YtakmmpbkojhmhaaGreatDoor

/-
  The document's answers on programs: Has, areVars, StmtError, Bare, Fine of package fingerpostref1, by contracts.
-/
namespace Go.Proofs.YtakmmpbkojhmhaaGreatDoor
open Go.RowKit Go.Extern.Stop Go.Stop Go.Extern

set_option maxHeartbeats 2000000 in
/-- Has. -/
theorem refHas_any (zs : List Int) (x : Int) (v : Value) (w : World) (hm : zs.length ≤ 1000000) (h : IsInts w v zs) : Calls Tryz.prog 15 #[v, .int .i64 x] w fun e w' => e = .returned (.bool (zs.contains x)) ∧ w' = w := by
  obtain ⟨a, c, rfl⟩ := isInts_form h
  have HC : Hid (∀ j, j < zs.length → ∃ b o, a = some ⟨b, o, none⟩ ∧ w.cell? ⟨b, o + j, none⟩ = some (.int .i64 (zs.getD j 0))) := fun j hj => isInts_at h j hj
  obtain ⟨R, hR⟩ : ∃ R, R = zs.contains x := ⟨_, rfl⟩
  rw [← hR]
  have HR : Hid (R = zs.contains x) := hR
  clear hR h
  obtain ⟨n, hn⟩ : ∃ n, n = zs.length := ⟨_, rfl⟩
  have HN : Hid (n = zs.length) := hn
  rw [← hn] at hm ⊢
  clear hn
  go_enter Tryz.func15, Tryz.ntmps15
  go_wp2_with fail
  go_loopw [5] (fun t wr => ∃ k : Nat, k ≤ n ∧ t = .int .i64 k ∧ wr = w ∧ (zs.take k).contains x = false) (fun t _ => (n - intOf t).toNat)
  case atStart => exact ⟨0, Nat.zero_le _, rfl, rfl, rfl⟩
  case round =>
    obtain ⟨k, hk, rfl, hwr, hall⟩ := hrel
    obtain rfl := hwr.symm
    have HA : Hid ((zs.take k).contains x = false) := hall
    clear hall hwr
    by_cases hlt : k < n
    · have hl : k < zs.length := by rw [← HN.out]; exact hlt
      obtain ⟨b, o, rfl, e0⟩ := HC.out k hl
      obtain ⟨y, hy⟩ : ∃ y, y = zs.getD k 0 := ⟨_, rfl⟩
      rw [← hy] at e0
      have hmem : y ∈ zs := by rw [hy]; simp [List.getD, hl]
      have htk : zs.take (k + 1) = zs.take k ++ [y] := by rw [List.take_add_one, hy]; simp [List.getD, hl]
      by_cases he : y = x
      · have hb : Hid (R = true) := by show R = true; rw [HR.out]; rw [he] at hmem; exact List.contains_iff_mem.2 hmem
        subst he
        clear hl hy hmem htk
        go_wp2_with fail
        go_ret
        exact ⟨by rw [hb.out]; rfl, rfl⟩
      · have hn2 : Hid ((zs.take (k + 1)).contains x = false) := by
          show (zs.take (k + 1)).contains x = false
          rw [htk]
          have h1 := HA.out
          simp only [List.contains_eq_mem, decide_eq_false_iff_not] at h1 ⊢
          simp only [List.mem_append, List.mem_singleton, not_or]
          exact ⟨h1, fun q => he q.symm⟩
        have hbe : (y == x) = false := beq_eq_false_iff_ne.2 he
        clear hl hy hmem htk
        go_wp2_with fail
        go_roundw
        case rel => exact ⟨k + 1, hlt, by go_num, trivial, hn2.out⟩
        case measure => simp [intOf]; omega
    · have hb : Hid (R = false) := by
        show R = false
        have := HA.out
        rw [show k = zs.length by rw [← HN.out]; omega, List.take_length] at this
        rw [HR.out, this]
      go_wp2_with fail
      go_ret
      exact ⟨by rw [hb.out]; rfl, rfl⟩

theorem all_take_snoc {α : Type} (p : α → Bool) (l : List α) (d : α) (k : Nat) (h : k < l.length) : (l.take (k + 1)).all p = ((l.take k).all p && p (l.getD k d)) := all_take_succ p l d k h

set_option maxHeartbeats 2000000 in
/-- areVars. -/
theorem refAreVars_any (P : ProgD) (zs : List Int) (v v1 v2 v3 : Value) (w : World) (hm : zs.length ≤ 1000000) (h : IsProg w v1 v2 v3 P) (hz : IsInts w v zs) :
    Calls Tryz.prog 62 #[.agg #[v1, v2, v3], v] w fun e w' => e = .returned (.bool (zs.all (varB P))) ∧ Below w.heap.size w w' := by
  obtain ⟨a, c, rfl⟩ := isInts_form hz
  have H : Hid (IsProg w v1 v2 v3 P) := h
  obtain ⟨W, hW⟩ : ∃ W, W = w.alloc (.cells #[v1, v2, v3] 43) := ⟨_, rfl⟩
  have hBW : Below w.heap.size w W := by rw [hW]; exact below1 w _
  have HC : Hid (∀ j, j < zs.length → ∃ b o, a = some ⟨b, o, none⟩ ∧ W.cell? ⟨b, o + j, none⟩ = some (.int .i64 (zs.getD j 0))) := fun j hj => by
    obtain ⟨b, o, h1, h2⟩ := isInts_at hz j hj
    exact ⟨b, o, h1, cell_keep hBW h2⟩
  have HX : Hid (Box3 W w.heap.size v1 v2 v3) := by
    show Box3 W _ _ _ _
    rw [hW]; exact box3_new w _ _ _ _
  obtain ⟨⟨a1, c1, rfl, -, -⟩, ⟨a2, c2, rfl, -, -⟩, ⟨a3, c3, rfl, -, -⟩⟩ := h
  obtain ⟨R, hR⟩ : ∃ R, R = zs.all (varB P) := ⟨_, rfl⟩
  rw [← hR]
  have HR : Hid (R = zs.all (varB P)) := hR
  obtain ⟨m1, hm1⟩ : ∃ m, m = P.vars.length := ⟨_, rfl⟩
  obtain ⟨m2, hm2⟩ : ∃ m, m = P.funs.length := ⟨_, rfl⟩
  obtain ⟨m3, hm3⟩ : ∃ m, m = P.stmts.length := ⟨_, rfl⟩
  obtain ⟨n, hn⟩ : ∃ n, n = zs.length := ⟨_, rfl⟩
  have HN : Hid (n = zs.length) := hn
  rw [← hn] at hm ⊢
  rw [← hm1, ← hm2, ← hm3] at H HX hW ⊢
  clear hR hz hn hm1 hm2 hm3
  go_enter Tryz.func62, Tryz.ntmps62
  go_wp2_with fail
  rw [← hW]
  clear hW
  go_loopw [5] (fun t wr => ∃ k : Nat, k ≤ n ∧ t = .int .i64 k ∧ Below W.heap.size W wr ∧ (zs.take k).all (varB P) = true) (fun t _ => (n - intOf t).toNat)
  case atStart => exact ⟨0, Nat.zero_le _, rfl, Below.refl _ _, rfl⟩
  case round =>
    obtain ⟨k, hk, rfl, hB, hall⟩ := hrel
    have HA : Hid ((zs.take k).all (varB P) = true) := hall
    clear hall
    by_cases hlt : k < n
    · have hl : k < zs.length := by rw [← HN.out]; exact hlt
      obtain ⟨b, o, rfl, e0⟩ := HC.out k hl
      obtain ⟨y, hy⟩ : ∃ y, y = zs.getD k 0 := ⟨_, rfl⟩
      rw [← hy] at e0
      obtain ⟨D, hD⟩ : ∃ D, D = varB P y := ⟨_, rfl⟩
      have HS : Hid ((zs.take (k + 1)).all (varB P) = D) := by
        show (zs.take (k + 1)).all (varB P) = D
        rw [all_take_snoc (varB P) zs 0 k hl, HA.out, ← hy, hD]; rfl
      have HF : Hid (D = false → R = false) := fun g => by
        rw [HR.out]; exact all_not_of_at (varB P) zs 0 k hl (by rw [← hy, ← hD]; exact g)
      obtain ⟨p0, p1, p2⟩ := HX.out.below hB
      have KI : ∀ d os, Calls Tryz.prog 63 #[.agg #[.slice a1 m1 c1, .slice a2 m2 c2, .slice a3 m3 c3], .int .i64 y] (Go.Sort.grow (redrawn wr d) os) fun e w'' => e = .returned (.bool D) ∧ ∃ p : Regrown, w'' = Go.Sort.grow (redrawn wr p.d) p.os := fun d os => by
        rw [hD]
        exact Calls.regrown_of (refIsVar_any P y _ _ _ _ (((H.out.below hBW).below hB).below (below_regrown wr d os)))
      have P0 := cell_regrown p0
      have P1 := cell_regrown p1
      have P2 := cell_regrown p2
      have E0 := cell_regrown (cell_keep hB e0)
      clear hl hy hD p0 p1 p2 e0
      go_wp2_with fail
      refine wp_region_quiet_below (by kernel_rfl) (by kernel_rfl) ?_
      repeat (quiet_step (first | exact KI _ _))
      refine wpQuiet_nil ?_
      intro _ hw'
      obtain ⟨⟨dq, osq⟩, hw''⟩ := hw'
      subst hw''
      have hBQ : Below W.heap.size W (Go.Sort.grow (redrawn wr dq) osq) := hB.trans ((below_regrown wr dq osq).mono hB.size)
      have hBF : Below w.heap.size w (Go.Sort.grow (redrawn wr dq) osq) := hBW.trans (hBQ.mono hBW.size)
      clear KI P0 P1 P2 E0
      cases D with
      | true =>
        go_wp2_with fail
        go_roundw
        case rel => exact ⟨k + 1, hlt, by go_num, hBQ, HS.out⟩
        case measure => simp [intOf]; omega
      | false =>
        have hb : Hid (R = false) := HF.out rfl
        go_wp2_with fail
        go_ret
        exact ⟨by rw [hb.out]; rfl, hBF⟩
    · have hb : Hid (R = true) := by
        show R = true
        have := HA.out
        rw [show k = zs.length by rw [← HN.out]; omega, List.take_length] at this
        rw [HR.out, this]
      have hBF : Below w.heap.size w wr := hBW.trans (hB.mono hBW.size)
      go_wp2_with fail
      go_ret
      exact ⟨by rw [hb.out]; rfl, hBF⟩

theorem bare_ref (n : Int) (w : World) : Calls Tryz.prog 60 #[.int .i64 n] w fun e w' => e = .returned (.agg #[.int .i64 n, .int .i64 (-1)]) ∧ Below w.heap.size w w' := by
  go_enter Tryz.func60, Tryz.ntmps60
  go_wp2_with fail
  refine bodyPost_ret (v := .agg #[.int .i64 n, .int .i64 (-1)]) (by simp [results, Tryz.results60, go_sem]) rfl ?_
  exact ⟨rfl, below1 _ _⟩
theorem fine_ref (w : World) : Calls Tryz.prog 65 #[] w fun e w' => e = .returned (.agg #[.int .i64 0, .int .i64 (-1)]) ∧ Below w.heap.size w w' := by
  go_enter Tryz.func65, Tryz.ntmps65
  go_wp2_with fail
  refine bodyPost_ret (v := .agg #[.int .i64 0, .int .i64 (-1)]) (by simp [results, Tryz.results65, go_sem]) rfl ?_
  exact ⟨rfl, below1 _ _⟩
end Go.Proofs.YtakmmpbkojhmhaaGreatDoor

/-
  The document's lookUp, by a contract.
-/
namespace Go.Proofs.YtakmmpbkojhmhaaGreatDoor
open Go.RowKit Go.Extern.Stop Go.Stop Go.Extern

/-- What lookUp tells of names: an error's number. -/
def lookE (vs : List Bs) (l : List Bs) : Int := if !l.all isNm then 1 else if (l.map (idx vs)).contains (-1) then 6 else 0

set_option maxRecDepth 100000 in
set_option maxHeartbeats 8000000 in
theorem refLookUp_any (P : ProgD) (l : List Bs) (v v1 v2 v3 : Value) (w : World) (hs : SmallP P) (hm : l.length ≤ 100000) (hn : ∀ x ∈ l, x.length ≤ 1000000) (h : IsProg w v1 v2 v3 P) (hl : IsStrs w v l) :
    Calls Tryz.prog 117 #[.agg #[v1, v2, v3], v] w fun e w' => ∃ v', e = .returned (.tuple #[v', .int .i64 (lookE P.vars l)]) ∧ (lookE P.vars l = 0 → w'.ownsRow w.heap.size 3 1 v' l.length ((l.map (idx P.vars)).map intV)) ∧ Below w.heap.size w w' := by
  have H : Hid (IsProg w v1 v2 v3 P) := h
  have HS : Hid (SmallP P) := hs
  have HL : Hid (IsStrs w v l) := hl
  have HNL : Hid (∀ x ∈ l, x.length ≤ 1000000) := hn
  obtain ⟨⟨a1, c1, rfl, -, -⟩, ⟨a2, c2, rfl, -, -⟩, ⟨a3, c3, rfl, -, -⟩⟩ := h
  obtain ⟨a, c, rfl, -, -⟩ := hl
  obtain ⟨n1, hn1⟩ : ∃ m, m = P.vars.length := ⟨_, rfl⟩
  obtain ⟨n2, hn2⟩ : ∃ m, m = P.funs.length := ⟨_, rfl⟩
  obtain ⟨n3, hn3⟩ : ∃ m, m = P.stmts.length := ⟨_, rfl⟩
  obtain ⟨n, hnn⟩ : ∃ m, m = l.length := ⟨_, rfl⟩
  have HN : Hid (n1 = P.vars.length ∧ n = l.length) := ⟨hn1, hnn⟩
  obtain ⟨R, hR⟩ : ∃ R, R = lookE P.vars l := ⟨_, rfl⟩
  have HR : Hid (R = lookE P.vars l) := hR
  rw [← hR]
  rw [← hn1, ← hn2, ← hn3] at H ⊢
  rw [← hnn] at HL hm ⊢
  obtain ⟨W, hW⟩ : ∃ W, W = w.alloc (.cells #[.slice a1 n1 c1, .slice a2 n2 c2, .slice a3 n3 c3] 43) := ⟨_, rfl⟩
  have hBW : Below w.heap.size w W := by rw [hW]; exact below1 w _
  have hX : Box3 W w.heap.size (.slice a1 n1 c1) (.slice a2 n2 c2) (.slice a3 n3 c3) := by rw [hW]; exact box3_new w _ _ _ _
  have HKN : Hid (∀ wx, Below W.heap.size W wx → IsProg wx (.slice a1 n1 c1) (.slice a2 n2 c2) (.slice a3 n3 c3) P ∧ IsStrs wx (.slice a n c) l ∧ Box3 wx w.heap.size (.slice a1 n1 c1) (.slice a2 n2 c2) (.slice a3 n3 c3) ∧ Below w.heap.size w wx) := fun wx hb =>
    ⟨(H.out.below hBW).below hb, (HL.out.below hBW).below hb, hX.below hb, hBW.trans (hb.mono hBW.size)⟩
  clear hn1 hn2 hn3 hnn hR hs hn hX
  have hB := Below.refl W.heap.size W
  go_enter Tryz.func117, Tryz.ntmps117
  go_wp2_with fail
  rw [← hW]
  clear hW
  go_loopw [6] (fun t wr => ∃ k : Nat, k ≤ n ∧ t = .int .i64 k ∧ wr = W ∧ (l.take k).all isNm = true) (fun t _ => (n - intOf t).toNat)
  case atStart => exact ⟨0, Nat.zero_le _, rfl, rfl, rfl⟩
  case round =>
    obtain ⟨k, hk, rfl, hwr, hall⟩ := hrel
    obtain rfl := hwr.symm
    have HA : Hid ((l.take k).all isNm = true) := hall
    clear hall hwr
    by_cases hlt : k < n
    · have hkl : k < l.length := by rw [← HN.out.2]; exact hlt
      obtain ⟨_, _, hv, _, hst⟩ := (HKN.out W hB).2.1
      obtain ⟨b, o, ha, e0⟩ := hst k hkl
      obtain rfl : a = some ⟨b, o, none⟩ := by rw [← ha]; exact (Value.slice.inj hv).1
      obtain ⟨z, hz⟩ : ∃ z, z = l.getD k [] := ⟨_, rfl⟩
      obtain ⟨D, hD⟩ : ∃ D, D = isNm z := ⟨_, rfl⟩
      obtain ⟨bz, hbz⟩ : ∃ b, b = S z := ⟨_, rfl⟩
      rw [← hz, ← hbz] at e0
      have KN : Hid (Calls Tryz.prog 61 #[.string bz] W fun e w' => e = .returned (.bool D) ∧ w' = W) := by
        rw [hD, hbz]; exact refName_any z W (HNL.out z (by rw [hz]; simp [List.getD, hkl]))
      have HX : Hid ((l.take (k + 1)).all isNm = D) := by
        show (l.take (k + 1)).all isNm = D
        rw [all_take_snoc isNm l [] k hkl, HA.out, ← hz, hD]; rfl
      have HF : Hid (D = false → R = 1) := fun g => by
        rw [HR.out]; unfold lookE
        rw [all_not_of_at isNm l [] k hkl (by rw [← hz, ← hD]; exact g)]; rfl
      have hBF := (HKN.out W hB).2.2.2
      clear hv hst ha hkl hz hD hbz HA
      go_wp2_with fail
      refine KN.out.mono ?_
      rintro e wy ⟨rfl, hw⟩
      obtain rfl := hw.symm
      clear hw KN
      cases D with
      | true =>
        go_wp2_with fail
        go_roundw
        case rel => exact ⟨k + 1, hlt, by go_num, trivial, HX.out⟩
        case measure => simp [intOf]; omega
      | false =>
        have hb : Hid (R = 1) := HF.out rfl
        clear HX HF
        go_wp2_with fail
        refine bodyPost_ret (v := .tuple #[.slice none 0 0, .int .i64 1]) (by simp [results, Tryz.results117, go_sem]) rfl ?_
        exact ⟨_, by rw [hb.out], (fun q => by rw [hb.out] at q; cases q), hBF⟩
    · have HV : Hid (l.all isNm = true) := by
        show l.all isNm = true
        have := HA.out
        rw [show k = l.length by rw [← HN.out.2]; omega, List.take_length] at this
        exact this
      clear HA
      go_wp2_with fail
      clear hlt hk
      go_loopw [8, 9] (fun t u wr => ∃ k : Nat, k ≤ n ∧ u = .int .i64 k ∧ wr.ownsRow W.heap.size 3 1 t k (((l.take k).map (idx P.vars)).map intV) ∧ Below W.heap.size W wr ∧ ((l.take k).map (idx P.vars)).contains (-1) = false) (fun _ u _ => (n - intOf u).toNat)
      case atStart => exact ⟨0, Nat.zero_le _, rfl, World.ownsRow_nil _ _ _ _, hB, rfl⟩
      case round =>
        clear hB
        obtain ⟨k, hk, rfl, ho, hB, hno⟩ := hrel
        obtain ⟨ta, tc, rfl⟩ := owns_form ho
        have HA : Hid (((l.take k).map (idx P.vars)).contains (-1) = false) := hno
        clear hno
        obtain ⟨hp, hls, ⟨p0, p1, p2⟩, hBF⟩ := HKN.out wr hB
        by_cases hlt : k < n
        · have hkl : k < l.length := by rw [← HN.out.2]; exact hlt
          obtain ⟨_, _, hv, _, hst⟩ := hls
          obtain ⟨b, o, ha, e0⟩ := hst k hkl
          obtain rfl : a = some ⟨b, o, none⟩ := by rw [← ha]; exact (Value.slice.inj hv).1
          obtain ⟨z, hz⟩ : ∃ z, z = l.getD k [] := ⟨_, rfl⟩
          obtain ⟨bz, hbz⟩ : ∃ b, b = S z := ⟨_, rfl⟩
          obtain ⟨y, hy⟩ : ∃ y, y = idx P.vars z := ⟨_, rfl⟩
          rw [← hz, ← hbz] at e0
          have htk : (l.take (k + 1)).map (idx P.vars) = (l.take k).map (idx P.vars) ++ [y] := by
            have : l.take (k + 1) = l.take k ++ [l.getD k []] := by rw [List.take_add_one]; simp [List.getD, hkl]
            rw [this, List.map_append, List.map_singleton, ← hz, hy]
          have hmem : y ∈ l.map (idx P.vars) := by
            rw [hy, hz]
            exact List.mem_map.2 ⟨_, by simp [List.getD, hkl], rfl⟩
          have hyr : y = -1 ∨ 0 ≤ y := by
            by_cases q : y = -1
            · exact Or.inl q
            · right
              have key : ∀ (vs : List Bs) (i : Nat), idxFrom i vs z = -1 ∨ 0 ≤ idxFrom i vs z := by
                intro vs
                induction vs with
                | nil => intro i; exact Or.inl rfl
                | cons x r ih =>
                  intro i
                  unfold idxFrom
                  split
                  · exact Or.inr (by omega)
                  · exact ih (i + 1)
              rcases key P.vars 0 with q2 | q2
              · exact absurd (hy.trans q2) q
              · rw [hy]; exact q2
          have HF : Hid (y = -1 → R = 6) := fun g => by
            rw [HR.out]; unfold lookE
            rw [HV.out, List.contains_iff_mem.2 (g ▸ hmem)]; rfl
          have HKI : Hid (∀ d os, Calls Tryz.prog 148 #[.slice a1 n1 c1, .string bz] (Go.Sort.grow (redrawn wr d) os) fun e w'' => e = .returned (.int .i64 y) ∧ ∃ p : Regrown, w'' = Go.Sort.grow (redrawn wr p.d) p.os) := fun d os => by
            rw [hy, hbz]
            refine (refPlaceOf_any P.vars z _ _ (by have := HS.out.1; omega) (hp.below (below_regrown wr d os)).vars).mono ?_
            rintro e w' ⟨rfl, rfl⟩
            exact ⟨rfl, ⟨d, os⟩, rfl⟩
          have P0 := cell_regrown p0
          have E0 := cell_regrown e0
          have HO : Hid (wr.ownsRow W.heap.size 3 1 (.slice ta k tc) k (((l.take k).map (idx P.vars)).map intV)) := ho
          have HTK : Hid ((l.take (k + 1)).map (idx P.vars) = (l.take k).map (idx P.vars) ++ [y] ∧ ((l.take k).map (idx P.vars)).length = k) := ⟨htk, by rw [List.length_map, List.length_take]; omega⟩
          clear hv hst ha hkl hz hbz hy htk hmem hp p0 p1 p2 e0 ho
          go_upto_region 11 with fail
          refine wp_region_quiet_below (by kernel_rfl) (by kernel_rfl) ?_
          repeat (quiet_step (first | exact HKI.out _ _))
          refine wpQuiet_nil ?_
          intro _ hw'
          obtain ⟨⟨dq, osq⟩, hw''⟩ := hw'
          subst hw''
          have hbr := below_regrown wr dq osq
          obtain ⟨wq, hwq⟩ : ∃ wq, wq = Go.Sort.grow (redrawn wr dq) osq := ⟨_, rfl⟩
          rw [← hwq] at hbr ⊢
          have hBq : Below W.heap.size W wq := hB.trans (hbr.mono hB.size)
          have hoq := owns_below HO.out hbr
          have hBFq := hBF.trans (hbr.mono hBF.size)
          clear HKI P0 E0 hwq
          by_cases g : y = -1
          · have hb : Hid (R = 6) := HF.out g
            subst g
            clear HF hoq
            go_wp2_with fail
            refine bodyPost_ret (v := .tuple #[.slice none 0 0, .int .i64 6]) (by simp [results, Tryz.results117, go_sem]) rfl ?_
            exact ⟨_, by rw [hb.out], (fun q => by rw [hb.out] at q; cases q), hBFq⟩
          · have hy0 : 0 ≤ y := by rcases hyr with q | q; exact absurd q g; exact q
            have hoq' : wq.ownsRow W.heap.size 3 1 (.slice ta k tc) ((l.take k).map (idx P.vars)).length (((l.take k).map (idx P.vars)).map intV) := by rw [HTK.out.2]; exact hoq
            obtain ⟨v', w2, hr, ho2, hb2⟩ := append_int wq W.heap.size (.slice ta k tc) ((l.take k).map (idx P.vars)) hoq' hBq.size (by rw [HTK.out.2]; omega) y 22
            have HRES : Hid (w2.ownsRow W.heap.size 3 1 v' (k + 1) (((l.take (k + 1)).map (idx P.vars)).map intV) ∧ Below W.heap.size W w2 ∧ ((l.take (k + 1)).map (idx P.vars)).contains (-1) = false) := by
              refine ⟨?_, hBq.trans hb2, ?_⟩
              · rw [HTK.out.1]
                have := ho2
                rw [List.length_append, HTK.out.2] at this
                exact this
              · rw [HTK.out.1, List.contains_append, HA.out, Bool.false_or]
                simp [Ne.symm g]
            clear ho2 hb2 hoq hoq' HF hyr
            go_wp2_with (at_builtin; refine Lib.wpList_append_run _ rfl _ _ _ _ rfl _ _ rfl rfl _ _ hr ?_)
            go_roundw
            case rel => exact ⟨k + 1, hlt, by go_num, HRES.out⟩
            case measure => simp [intOf]; omega
        · have hb : Hid (R = 0) := by
            show R = 0
            rw [HR.out]; unfold lookE
            have := HA.out
            rw [show k = l.length by rw [← HN.out.2]; omega, List.take_length] at this
            rw [HV.out, this]; rfl
          have HO : Hid (wr.ownsRow w.heap.size 3 1 (.slice ta k tc) n ((l.map (idx P.vars)).map intV)) := by
            show wr.ownsRow w.heap.size 3 1 (.slice ta k tc) n ((l.map (idx P.vars)).map intV)
            have hkn : k = n := by omega
            have := owns_mono ho hBW.size
            rw [show List.take k l = l by rw [hkn, HN.out.2]; exact List.take_length] at this
            rw [← hkn]; exact this
          clear ho hp hls p0 p1 p2
          go_wp2_with fail
          refine bodyPost_ret (v := .tuple #[.slice ta k tc, .int .i64 0]) (by simp [results, Tryz.results117, go_sem]) rfl ?_
          exact ⟨_, by rw [hb.out], fun _ => HO.out, hBF⟩
end Go.Proofs.YtakmmpbkojhmhaaGreatDoor

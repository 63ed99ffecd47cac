/-
  The document's answers on programs: IsName, Has, HasText, isVar, areVars of package fingerpostref1, by contracts.
-/
import Derived.Test.YteekjigaicmohaaGreatDoorPIM
import Derived.Lib.QuietBelow
import Derived.Deep.DeepCutAuto
namespace Go.Proofs.YteekjigaicmohaaGreatDoor
open Go.RowKit Go.Extern.Stop Go.Stop Go.Extern

theorem isLet_t {c : UInt8} (h1 : (97 : Int) ≤ (c.toNat : Int)) (h2 : (c.toNat : Int) ≤ 122) : isLet c = true := by unfold isLet; simp; omega
theorem isLet_f1 {c : UInt8} (h : ¬ (97 : Int) ≤ (c.toNat : Int)) : isLet c = false := by unfold isLet; simp; omega
theorem isLet_f2 {c : UInt8} (h : ¬ (c.toNat : Int) ≤ 122) : isLet c = false := by unfold isLet; simp; omega
theorem isDig_t {c : UInt8} (h1 : (48 : Int) ≤ (c.toNat : Int)) (h2 : (c.toNat : Int) ≤ 57) : isDig c = true := by unfold isDig; simp; omega
theorem isDig_f1 {c : UInt8} (h : ¬ (48 : Int) ≤ (c.toNat : Int)) : isDig c = false := by unfold isDig; simp; omega
theorem isDig_f2 {c : UInt8} (h : ¬ (c.toNat : Int) ≤ 57) : isDig c = false := by unfold isDig; simp; omega
theorem ge48_of {c : UInt8} (h : (97 : Int) ≤ (c.toNat : Int)) : (48 : Int) ≤ (c.toNat : Int) := by omega
theorem not57_of {c : UInt8} (h : (97 : Int) ≤ (c.toNat : Int)) : ¬ (c.toNat : Int) ≤ 57 := by omega
theorem not122_of {c : UInt8} (h : (c.toNat : Int) ≤ 57) : ¬ (97 : Int) ≤ (c.toNat : Int) := by omega

set_option maxRecDepth 100000 in
set_option maxHeartbeats 4000000 in
theorem refName_s (s : ByteArray) (w : World) (hs : s.size ≤ 1000000) : Calls Tryz.prog 58 #[.string s] w fun e w' => e = .returned (.bool (isNm s.data.toList)) ∧ w' = w := by
  have hq := isNm_eq s.data.toList
  have hz := Lib.size_eq s
  obtain ⟨B, hB⟩ : ∃ B, B = isNm s.data.toList := ⟨_, rfl⟩
  rw [← hB] at hq ⊢
  have HQ : Hid (B = (!s.data.toList.isEmpty && decide (s.data.toList.length ≤ 8) && isLet (s.data.toList.headD 0) && s.data.toList.all nmC && nmTail s.data.toList)) := hq
  have ht : ∀ x : Bs, s.toList = x → (s.data.toList == x) = true := fun x h => by rw [← Lib.toList_data, h]; exact beq_self_eq_true x
  have hf : ∀ x : Bs, ¬ s.toList = x → (s.data.toList == x) = false := fun x h => beq_eq_false_iff_ne.2 (fun e => h (by rw [Lib.toList_data]; exact e))
  clear hB hq
  by_cases h1 : s.toList = [118, 97, 114]
  · have hb : Hid (B = false) := by show B = false; rw [HQ.out]; unfold nmTail; rw [ht kVar h1]; simp
    clear ht hf hz
    go_enter Tryz.func58, Tryz.ntmps58
    go_wp2_with fail
    go_ret
    exact ⟨by rw [hb.out]; rfl, rfl⟩
  have g1 : (s.toList == [118, 97, 114]) = false := beq_eq_false_iff_ne.2 h1
  by_cases h2 : s.toList = [102, 110]
  · have hb : Hid (B = false) := by show B = false; rw [HQ.out]; unfold nmTail; rw [ht kFn h2]; simp
    clear ht hf h1 hz
    go_enter Tryz.func58, Tryz.ntmps58
    go_wp2_with fail
    go_ret
    exact ⟨by rw [hb.out]; rfl, rfl⟩
  have g2 : (s.toList == [102, 110]) = false := beq_eq_false_iff_ne.2 h2
  by_cases h3 : s.toList = [110, 101, 119]
  · have hb : Hid (B = false) := by show B = false; rw [HQ.out]; unfold nmTail; rw [ht kNew h3]; simp
    clear ht hf h1 h2 hz
    go_enter Tryz.func58, Tryz.ntmps58
    go_wp2_with fail
    go_ret
    exact ⟨by rw [hb.out]; rfl, rfl⟩
  have g3 : (s.toList == [110, 101, 119]) = false := beq_eq_false_iff_ne.2 h3
  by_cases h4 : s.toList = [99, 97, 108, 108]
  · have hb : Hid (B = false) := by show B = false; rw [HQ.out]; unfold nmTail; rw [ht kCall h4]; simp
    clear ht hf h1 h2 h3 hz
    go_enter Tryz.func58, Tryz.ntmps58
    go_wp2_with fail
    go_ret
    exact ⟨by rw [hb.out]; rfl, rfl⟩
  have g4 : (s.toList == [99, 97, 108, 108]) = false := beq_eq_false_iff_ne.2 h4
  have HT : Hid (nmTail s.data.toList = true) := by
    show nmTail s.data.toList = true
    unfold nmTail; rw [hf kVar h1, hf kFn h2, hf kNew h3, hf kCall h4]; rfl
  clear ht hf h1 h2 h3 h4
  have HZ : Hid (s.size = s.data.toList.length) := hz
  clear hz
  go_enter Tryz.func58, Tryz.ntmps58
  go_wp2_with fail
  clear g1 g2 g3 g4
  go_loopw [3] (fun t wr => ∃ k : Nat, k ≤ s.size ∧ t = .int .i64 k ∧ wr = w ∧ (s.data.toList.take k).all nmC = true ∧ (0 < k → isLet (s.data.toList.headD 0) = true)) (fun t _ => s.size - (intOf t).toNat)
  case atStart => exact ⟨0, Nat.zero_le _, rfl, rfl, rfl, fun h => absurd h (by omega)⟩
  case round =>
    obtain ⟨k, hk, rfl, hwr, hall, hhd⟩ := hrel
    obtain rfl := hwr.symm
    have HA : Hid ((s.data.toList.take k).all nmC = true ∧ (0 < k → isLet (s.data.toList.headD 0) = true)) := ⟨hall, hhd⟩
    clear hall hhd hwr
    by_cases hlt : k < s.size
    · have hg := getD_data s k hlt
      have hkl : k < s.data.toList.length := by rw [← HZ.out]; exact hlt
      have HN : Hid (nmC (s[k]'hlt) = true → (k = 0 → isLet (s[k]'hlt) = true) → (s.data.toList.take (k + 1)).all nmC = true ∧ (0 < k + 1 → isLet (s.data.toList.headD 0) = true)) := fun hc h0 => by
        refine ⟨by rw [all_take_succ nmC _ 0 k hkl, HA.out.1, hg, hc]; rfl, fun _ => ?_⟩
        by_cases hk0 : k = 0
        · have := h0 hk0
          subst hk0
          rw [headD_data s hlt]; exact this
        · exact HA.out.2 (by omega)
      have HF : Hid (nmC (s[k]'hlt) = false → B = false) := fun g => by
        rw [HQ.out, all_not_of_at nmC _ 0 k hkl (by rw [hg]; exact g)]; simp
      have HF0 : Hid (k = 0 → isLet (s[k]'hlt) = false → B = false) := fun h0 g => by
        subst h0
        rw [HQ.out, headD_data s hlt, g]; simp
      clear hg hkl
      by_cases c1 : (97 : Int) ≤ (s[k].toNat : Int)
      · by_cases c2 : (s[k].toNat : Int) ≤ 122
        · have c3 : (48 : Int) ≤ (s[k].toNat : Int) := ge48_of c1
          have c4 : ¬ (s[k].toNat : Int) ≤ 57 := not57_of c1
          have HX : Hid ((s.data.toList.take (k + 1)).all nmC = true ∧ (0 < k + 1 → isLet (s.data.toList.headD 0) = true)) := HN.out (by unfold nmC; rw [isLet_t c1 c2]; rfl) (fun _ => isLet_t c1 c2)
          clear HN HF HF0
          go_wp2_with fail
          go_roundw
          case rel => exact ⟨k + 1, hlt, by go_num, trivial, HX.out⟩
          case measure => simp [intOf]; omega
        · have c3 : (48 : Int) ≤ (s[k].toNat : Int) := ge48_of c1
          have c4 : ¬ (s[k].toNat : Int) ≤ 57 := not57_of c1
          have HX : Hid (B = false) := HF.out (by unfold nmC; rw [isLet_f2 c2, isDig_f2 c4]; rfl)
          clear HN HF HF0
          go_wp2_with fail
          go_ret
          exact ⟨by rw [HX.out]; rfl, rfl⟩
      · by_cases c3 : (48 : Int) ≤ (s[k].toNat : Int)
        · by_cases c4 : (s[k].toNat : Int) ≤ 57
          · by_cases hk0 : k = 0
            · have HX : Hid (B = false) := HF0.out hk0 (isLet_f1 c1)
              clear HN HF HF0
              subst hk0
              go_wp2_with fail
              go_ret
              exact ⟨by rw [HX.out]; rfl, rfl⟩
            · have hk1 : ¬ (k : Int) = 0 := by omega
              have HX : Hid ((s.data.toList.take (k + 1)).all nmC = true ∧ (0 < k + 1 → isLet (s.data.toList.headD 0) = true)) := HN.out (by unfold nmC; rw [isDig_t c3 c4]; simp) (fun h => absurd h hk0)
              clear HN HF HF0
              go_wp2_with fail
              go_roundw
              case rel => exact ⟨k + 1, hlt, by go_num, trivial, HX.out⟩
              case measure => simp [intOf]; omega
          · have HX : Hid (B = false) := HF.out (by unfold nmC; rw [isLet_f1 c1, isDig_f2 c4]; rfl)
            clear HN HF HF0
            go_wp2_with fail
            go_ret
            exact ⟨by rw [HX.out]; rfl, rfl⟩
        · have HX : Hid (B = false) := HF.out (by unfold nmC; rw [isLet_f1 c1, isDig_f1 c3]; rfl)
          clear HN HF HF0
          go_wp2_with fail
          go_ret
          exact ⟨by rw [HX.out]; rfl, rfl⟩
    · have hks : k = s.data.toList.length := by rw [← HZ.out]; omega
      have ha := HA.out.1
      rw [hks, List.take_length] at ha
      by_cases h0 : (1 : Int) ≤ (s.size : Int)
      · have hh := HA.out.2 (by have := HZ.out; omega)
        have hne : s.data.toList.isEmpty = false := by
          cases he : s.data.toList with
          | nil =>
            have h9 := HZ.out
            rw [he] at h9
            have h10 : s.size = 0 := h9
            omega
          | cons x r => rfl
        by_cases h8 : (s.size : Int) ≤ 8
        · have HX : Hid (B = true) := by
            show B = true
            rw [HQ.out, ha, hh, hne, HT.out, decide_eq_true (by rw [← HZ.out]; omega)]; rfl
          clear hks ha hh hne
          go_wp2_with fail
          go_ret
          exact ⟨by rw [HX.out]; rfl, rfl⟩
        · have HX : Hid (B = false) := by
            show B = false
            rw [HQ.out, decide_eq_false (by rw [← HZ.out]; omega)]; simp
          clear hks ha hh hne
          go_wp2_with fail
          go_ret
          exact ⟨by rw [HX.out]; rfl, rfl⟩
      · have HX : Hid (B = false) := by
          show B = false
          have : s.data.toList = [] := List.eq_nil_of_length_eq_zero (by rw [← HZ.out]; omega)
          rw [HQ.out, this]; rfl
        clear hks ha
        go_wp2_with fail
        go_ret
        exact ⟨by rw [HX.out]; rfl, rfl⟩
theorem refName_any (l : Bs) (w : World) (hs : l.length ≤ 1000000) : Calls Tryz.prog 58 #[.string (S l)] w fun e w' => e = .returned (.bool (isNm l)) ∧ w' = w := by
  have := refName_s (S l) w (by rw [S_size]; exact hs)
  rwa [S_data] at this

set_option maxHeartbeats 2000000 in
/-- HasText. -/
theorem refHasText_any (ss : List Bs) (x : Bs) (v : Value) (w : World) (hm : ss.length ≤ 1000000) (h : IsStrs w v ss) : Calls Tryz.prog 111 #[v, .string (S x)] w fun e w' => e = .returned (.bool (ss.contains x)) ∧ w' = w := by
  obtain ⟨a, c, rfl, -, hc⟩ := h
  have HC : Hid (∀ j, j < ss.length → ∃ b o, a = some ⟨b, o, none⟩ ∧ w.cell? ⟨b, o + j, none⟩ = some (.string (S (ss.getD j [])))) := hc
  obtain ⟨R, hR⟩ : ∃ R, R = ss.contains x := ⟨_, rfl⟩
  rw [← hR]
  have HR : Hid (R = ss.contains x) := hR
  clear hc hR
  obtain ⟨n, hn⟩ : ∃ n, n = ss.length := ⟨_, rfl⟩
  have HN : Hid (n = ss.length) := hn
  rw [← hn] at hm ⊢
  obtain ⟨bx, hbx⟩ : ∃ b, b = S x := ⟨_, rfl⟩
  have HX : Hid (bx = S x) := hbx
  rw [← hbx]
  clear hn hbx
  go_enter Tryz.func111, Tryz.ntmps111
  go_wp2_with fail
  go_loopw [5] (fun t wr => ∃ k : Nat, k ≤ n ∧ t = .int .i64 k ∧ wr = w ∧ (ss.take k).contains x = false) (fun t _ => (n - intOf t).toNat)
  case atStart => exact ⟨0, Nat.zero_le _, rfl, rfl, rfl⟩
  case round =>
    obtain ⟨k, hk, rfl, hwr, hall⟩ := hrel
    obtain rfl := hwr.symm
    have HA : Hid ((ss.take k).contains x = false) := hall
    clear hall hwr
    by_cases hlt : k < n
    · have hl : k < ss.length := by rw [← HN.out]; exact hlt
      obtain ⟨b, o, rfl, e0⟩ := HC.out k hl
      obtain ⟨y, hy⟩ : ∃ y, y = ss.getD k [] := ⟨_, rfl⟩
      obtain ⟨by_, hby⟩ : ∃ b, b = S y := ⟨_, rfl⟩
      rw [← hy, ← hby] at e0
      have hmem : y ∈ ss := by rw [hy]; simp [List.getD, hl]
      have htk : ss.take (k + 1) = ss.take k ++ [y] := by rw [List.take_add_one, hy]; simp [List.getD, hl]
      by_cases he : y = x
      · have hb : Hid (R = true) := by show R = true; rw [HR.out]; rw [he] at hmem; exact List.contains_iff_mem.2 hmem
        have hbe : (by_.toList == bx.toList) = true := by rw [hby, HX.out, he]; exact beq_self_eq_true _
        have hbe2 : by_.toList = bx.toList := eq_of_beq hbe
        have hbe3 : by_ = bx := by rw [hby, HX.out, he]
        subst hbe3
        clear hl hy hby hmem htk he hbe hbe2
        go_wp2_with fail
        go_ret
        exact ⟨by rw [hb.out]; rfl, rfl⟩
      · have hn2 : Hid ((ss.take (k + 1)).contains x = false) := by
          show (ss.take (k + 1)).contains x = false
          rw [htk]
          have h1 := HA.out
          simp only [List.contains_eq_mem, decide_eq_false_iff_not] at h1 ⊢
          simp only [List.mem_append, List.mem_singleton, not_or]
          exact ⟨h1, fun q => he q.symm⟩
        have hbe : (by_.toList == bx.toList) = false := beq_eq_false_iff_ne.2 (fun q => he (by rw [hby, HX.out, S_toList, S_toList] at q; exact q))
        clear hl hy hby hmem htk he
        go_wp2_with fail
        go_roundw
        case rel => exact ⟨k + 1, hlt, by go_num, trivial, hn2.out⟩
        case measure => simp [intOf]; omega
    · have hb : Hid (R = false) := by
        show R = false
        have := HA.out
        rw [show k = ss.length by rw [← HN.out]; omega, List.take_length] at this
        rw [HR.out, this]
      go_wp2_with fail
      go_ret
      exact ⟨by rw [hb.out]; rfl, rfl⟩

set_option maxHeartbeats 2000000 in
/-- isVar. -/
theorem refIsVar_any (P : ProgD) (n : Int) (v1 v2 v3 : Value) (w : World) (h : IsProg w v1 v2 v3 P) : Calls Tryz.prog 60 #[.agg #[v1, v2, v3], .int .i64 n] w fun e w' => e = .returned (.bool (varB P n)) ∧ Below w.heap.size w w' := by
  obtain ⟨⟨a1, c1, rfl, -, -⟩, ⟨a2, c2, rfl, -, -⟩, ⟨a3, c3, rfl, -, -⟩⟩ := h
  by_cases g1 : 0 ≤ n
  · by_cases g2 : n < (P.vars.length : Int)
    · have e : varB P n = true := by unfold varB; simp [g1, g2]
      rw [e]; clear e
      generalize P.vars.length = m1 at *
      go_enter Tryz.func60, Tryz.ntmps60
      go_wp2_with fail
      go_ret
      exact ⟨rfl, below1 _ _⟩
    · have e : varB P n = false := by unfold varB; simp [g2]
      rw [e]; clear e
      generalize P.vars.length = m1 at *
      go_enter Tryz.func60, Tryz.ntmps60
      go_wp2_with fail
      go_ret
      exact ⟨rfl, below1 _ _⟩
  · have e : varB P n = false := by unfold varB; simp [g1]
    rw [e]; clear e
    go_enter Tryz.func60, Tryz.ntmps60
    go_wp2_with fail
    go_ret
    exact ⟨rfl, below1 _ _⟩
end Go.Proofs.YteekjigaicmohaaGreatDoor

/-
  The document's answers on programs: Has, areVars, StmtError, Bare, Fine of package fingerpostref1, by contracts.
-/
namespace Go.Proofs.YteekjigaicmohaaGreatDoor
open Go.RowKit Go.Extern.Stop Go.Stop Go.Extern

set_option maxHeartbeats 2000000 in
/-- Has. -/
theorem refHasQ_any (zs : List Int) (x : Int) (v : Value) (w : World) (hm : zs.length ≤ 1000000) (h : IsInts w v zs) : Calls Tryz.prog 35 #[v, .int .i64 x] w fun e w' => e = .returned (.bool (zs.contains x)) ∧ w' = w := by
  obtain ⟨a, c, rfl⟩ := isInts_form h
  have HC : Hid (∀ j, j < zs.length → ∃ b o, a = some ⟨b, o, none⟩ ∧ w.cell? ⟨b, o + j, none⟩ = some (.int .i64 (zs.getD j 0))) := fun j hj => isInts_at h j hj
  obtain ⟨R, hR⟩ : ∃ R, R = zs.contains x := ⟨_, rfl⟩
  rw [← hR]
  have HR : Hid (R = zs.contains x) := hR
  clear hR h
  obtain ⟨n, hn⟩ : ∃ n, n = zs.length := ⟨_, rfl⟩
  have HN : Hid (n = zs.length) := hn
  rw [← hn] at hm ⊢
  clear hn
  go_enter Tryz.func35, Tryz.ntmps35
  go_wp2_with fail
  go_loopw [5] (fun t wr => ∃ k : Nat, k ≤ n ∧ t = .int .i64 k ∧ wr = w ∧ (zs.take k).contains x = false) (fun t _ => (n - intOf t).toNat)
  case atStart => exact ⟨0, Nat.zero_le _, rfl, rfl, rfl⟩
  case round =>
    obtain ⟨k, hk, rfl, hwr, hall⟩ := hrel
    obtain rfl := hwr.symm
    have HA : Hid ((zs.take k).contains x = false) := hall
    clear hall hwr
    by_cases hlt : k < n
    · have hl : k < zs.length := by rw [← HN.out]; exact hlt
      obtain ⟨b, o, rfl, e0⟩ := HC.out k hl
      obtain ⟨y, hy⟩ : ∃ y, y = zs.getD k 0 := ⟨_, rfl⟩
      rw [← hy] at e0
      have hmem : y ∈ zs := by rw [hy]; simp [List.getD, hl]
      have htk : zs.take (k + 1) = zs.take k ++ [y] := by rw [List.take_add_one, hy]; simp [List.getD, hl]
      by_cases he : y = x
      · have hb : Hid (R = true) := by show R = true; rw [HR.out]; rw [he] at hmem; exact List.contains_iff_mem.2 hmem
        subst he
        clear hl hy hmem htk
        go_wp2_with fail
        go_ret
        exact ⟨by rw [hb.out]; rfl, rfl⟩
      · have hn2 : Hid ((zs.take (k + 1)).contains x = false) := by
          show (zs.take (k + 1)).contains x = false
          rw [htk]
          have h1 := HA.out
          simp only [List.contains_eq_mem, decide_eq_false_iff_not] at h1 ⊢
          simp only [List.mem_append, List.mem_singleton, not_or]
          exact ⟨h1, fun q => he q.symm⟩
        have hbe : (y == x) = false := beq_eq_false_iff_ne.2 he
        clear hl hy hmem htk
        go_wp2_with fail
        go_roundw
        case rel => exact ⟨k + 1, hlt, by go_num, trivial, hn2.out⟩
        case measure => simp [intOf]; omega
    · have hb : Hid (R = false) := by
        show R = false
        have := HA.out
        rw [show k = zs.length by rw [← HN.out]; omega, List.take_length] at this
        rw [HR.out, this]
      go_wp2_with fail
      go_ret
      exact ⟨by rw [hb.out]; rfl, rfl⟩

theorem all_take_snoc {α : Type} (p : α → Bool) (l : List α) (d : α) (k : Nat) (h : k < l.length) : (l.take (k + 1)).all p = ((l.take k).all p && p (l.getD k d)) := all_take_succ p l d k h

set_option maxHeartbeats 2000000 in
/-- areVars. -/
theorem refAreVars_any (P : ProgD) (zs : List Int) (v v1 v2 v3 : Value) (w : World) (hm : zs.length ≤ 1000000) (h : IsProg w v1 v2 v3 P) (hz : IsInts w v zs) :
    Calls Tryz.prog 59 #[.agg #[v1, v2, v3], v] w fun e w' => e = .returned (.bool (zs.all (varB P))) ∧ Below w.heap.size w w' := by
  obtain ⟨a, c, rfl⟩ := isInts_form hz
  have H : Hid (IsProg w v1 v2 v3 P) := h
  obtain ⟨W, hW⟩ : ∃ W, W = w.alloc (.cells #[v1, v2, v3] 26) := ⟨_, rfl⟩
  have hBW : Below w.heap.size w W := by rw [hW]; exact below1 w _
  have HC : Hid (∀ j, j < zs.length → ∃ b o, a = some ⟨b, o, none⟩ ∧ W.cell? ⟨b, o + j, none⟩ = some (.int .i64 (zs.getD j 0))) := fun j hj => by
    obtain ⟨b, o, h1, h2⟩ := isInts_at hz j hj
    exact ⟨b, o, h1, cell_keep hBW h2⟩
  have HX : Hid (Box3 W w.heap.size v1 v2 v3) := by
    show Box3 W _ _ _ _
    rw [hW]; exact box3_new w _ _ _ _
  obtain ⟨⟨a1, c1, rfl, -, -⟩, ⟨a2, c2, rfl, -, -⟩, ⟨a3, c3, rfl, -, -⟩⟩ := h
  obtain ⟨R, hR⟩ : ∃ R, R = zs.all (varB P) := ⟨_, rfl⟩
  rw [← hR]
  have HR : Hid (R = zs.all (varB P)) := hR
  obtain ⟨m1, hm1⟩ : ∃ m, m = P.vars.length := ⟨_, rfl⟩
  obtain ⟨m2, hm2⟩ : ∃ m, m = P.funs.length := ⟨_, rfl⟩
  obtain ⟨m3, hm3⟩ : ∃ m, m = P.stmts.length := ⟨_, rfl⟩
  obtain ⟨n, hn⟩ : ∃ n, n = zs.length := ⟨_, rfl⟩
  have HN : Hid (n = zs.length) := hn
  rw [← hn] at hm ⊢
  rw [← hm1, ← hm2, ← hm3] at H HX hW ⊢
  clear hR hz hn hm1 hm2 hm3
  go_enter Tryz.func59, Tryz.ntmps59
  go_wp2_with fail
  rw [← hW]
  clear hW
  go_loopw [5] (fun t wr => ∃ k : Nat, k ≤ n ∧ t = .int .i64 k ∧ Below W.heap.size W wr ∧ (zs.take k).all (varB P) = true) (fun t _ => (n - intOf t).toNat)
  case atStart => exact ⟨0, Nat.zero_le _, rfl, Below.refl _ _, rfl⟩
  case round =>
    obtain ⟨k, hk, rfl, hB, hall⟩ := hrel
    have HA : Hid ((zs.take k).all (varB P) = true) := hall
    clear hall
    by_cases hlt : k < n
    · have hl : k < zs.length := by rw [← HN.out]; exact hlt
      obtain ⟨b, o, rfl, e0⟩ := HC.out k hl
      obtain ⟨y, hy⟩ : ∃ y, y = zs.getD k 0 := ⟨_, rfl⟩
      rw [← hy] at e0
      obtain ⟨D, hD⟩ : ∃ D, D = varB P y := ⟨_, rfl⟩
      have HS : Hid ((zs.take (k + 1)).all (varB P) = D) := by
        show (zs.take (k + 1)).all (varB P) = D
        rw [all_take_snoc (varB P) zs 0 k hl, HA.out, ← hy, hD]; rfl
      have HF : Hid (D = false → R = false) := fun g => by
        rw [HR.out]; exact all_not_of_at (varB P) zs 0 k hl (by rw [← hy, ← hD]; exact g)
      obtain ⟨p0, p1, p2⟩ := HX.out.below hB
      have KI : ∀ d os, Calls Tryz.prog 60 #[.agg #[.slice a1 m1 c1, .slice a2 m2 c2, .slice a3 m3 c3], .int .i64 y] (Go.Sort.grow (redrawn wr d) os) fun e w'' => e = .returned (.bool D) ∧ ∃ p : Regrown, w'' = Go.Sort.grow (redrawn wr p.d) p.os := fun d os => by
        rw [hD]
        exact Calls.regrown_of (refIsVar_any P y _ _ _ _ (((H.out.below hBW).below hB).below (below_regrown wr d os)))
      have P0 := cell_regrown p0
      have P1 := cell_regrown p1
      have P2 := cell_regrown p2
      have E0 := cell_regrown (cell_keep hB e0)
      clear hl hy hD p0 p1 p2 e0
      go_wp2_with fail
      refine wp_region_quiet_below (by kernel_rfl) (by kernel_rfl) ?_
      repeat (quiet_step (first | exact KI _ _))
      refine wpQuiet_nil ?_
      intro _ hw'
      obtain ⟨⟨dq, osq⟩, hw''⟩ := hw'
      subst hw''
      have hBQ : Below W.heap.size W (Go.Sort.grow (redrawn wr dq) osq) := hB.trans ((below_regrown wr dq osq).mono hB.size)
      have hBF : Below w.heap.size w (Go.Sort.grow (redrawn wr dq) osq) := hBW.trans (hBQ.mono hBW.size)
      clear KI P0 P1 P2 E0
      cases D with
      | true =>
        go_wp2_with fail
        go_roundw
        case rel => exact ⟨k + 1, hlt, by go_num, hBQ, HS.out⟩
        case measure => simp [intOf]; omega
      | false =>
        have hb : Hid (R = false) := HF.out rfl
        go_wp2_with fail
        go_ret
        exact ⟨by rw [hb.out]; rfl, hBF⟩
    · have hb : Hid (R = true) := by
        show R = true
        have := HA.out
        rw [show k = zs.length by rw [← HN.out]; omega, List.take_length] at this
        rw [HR.out, this]
      have hBF : Below w.heap.size w wr := hBW.trans (hB.mono hBW.size)
      go_wp2_with fail
      go_ret
      exact ⟨by rw [hb.out]; rfl, hBF⟩

theorem bare_ref (n : Int) (w : World) : Calls Tryz.prog 57 #[.int .i64 n] w fun e w' => e = .returned (.agg #[.int .i64 n, .int .i64 (-1)]) ∧ Below w.heap.size w w' := by
  go_enter Tryz.func57, Tryz.ntmps57
  go_wp2_with fail
  refine bodyPost_ret (v := .agg #[.int .i64 n, .int .i64 (-1)]) (by simp [results, Tryz.results57, go_sem]) rfl ?_
  exact ⟨rfl, below1 _ _⟩
theorem fine_ref (w : World) : Calls Tryz.prog 62 #[] w fun e w' => e = .returned (.agg #[.int .i64 0, .int .i64 (-1)]) ∧ Below w.heap.size w w' := by
  go_enter Tryz.func62, Tryz.ntmps62
  go_wp2_with fail
  refine bodyPost_ret (v := .agg #[.int .i64 0, .int .i64 (-1)]) (by simp [results, Tryz.results62, go_sem]) rfl ?_
  exact ⟨rfl, below1 _ _⟩
end Go.Proofs.YteekjigaicmohaaGreatDoor

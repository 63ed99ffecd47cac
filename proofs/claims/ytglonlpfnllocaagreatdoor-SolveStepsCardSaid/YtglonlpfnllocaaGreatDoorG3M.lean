/-
  Check of plain programs, test by test.
-/
import Derived.Test.YtglonlpfnllocaaGreatDoorPDM
import Derived.Test.YtglonlpfnllocaaGreatDoorPIM
import Derived.Lib.QuietBelow
import Derived.Deep.DeepCutAuto
namespace Go.Proofs.YtglonlpfnllocaaGreatDoor
open Go.RowKit Go.Extern.Stop Go.Stop Go.Extern

def codeE : ErrD → Int
  | none => 0
  | some x => (x.1 : Int) + 1
def placeE : ErrD → Int
  | none => -1
  | some x => x.2

theorem dup_cons_take {α : Type} [BEq α] [LawfulBEq α] (l : List α) (m : Nat) (h : dup (l.take m) = true) : dup l = true := by
  induction l generalizing m with
  | nil => simp [dup] at h
  | cons x r ih =>
    cases m with
    | zero => simp [dup] at h
    | succ m =>
      rw [List.take_succ_cons] at h
      unfold dup at h ⊢
      rcases Bool.or_eq_true_iff.1 h with h1 | h1
      · have : r.contains x = true := List.contains_iff_mem.2 (List.mem_of_mem_take (List.contains_iff_mem.1 h1))
        rw [this]; rfl
      · rw [ih m h1, Bool.or_true]
theorem dup_take_step {α : Type} [BEq α] [LawfulBEq α] (l : List α) (d : α) (i : Nat) (hi : i < l.length) (h : dup (l.take i) = false) (hc : (l.take i).contains (l.getD i d) = false) : dup (l.take (i + 1)) = false := by
  have : l.take (i + 1) = l.take i ++ [l.getD i d] := by rw [List.take_add_one]; simp [List.getD, hi]
  rw [this, dup_snoc, h, hc]; rfl
theorem dup_of_eq {α : Type} [BEq α] [LawfulBEq α] (l : List α) (d : α) (k i : Nat) (hk : k < i) (hi : i < l.length) (h : l.getD k d = l.getD i d) : dup l = true := by
  refine dup_cons_take l (i + 1) ?_
  have : l.take (i + 1) = l.take i ++ [l.getD i d] := by rw [List.take_add_one]; simp [List.getD, hi]
  rw [this, dup_snoc]
  have hm : l.getD i d ∈ l.take i := by
    rw [← h]
    refine List.mem_iff_getElem.2 ⟨k, by simp; omega, ?_⟩
    simp [List.getD, show k < l.length by omega]
  rw [List.contains_iff_mem.2 hm, Bool.or_true]
theorem contains_take_step {α : Type} [BEq α] [LawfulBEq α] (l : List α) (d x : α) (k : Nat) (hk : k < l.length) (h : (l.take k).contains x = false) (hne : ¬ l.getD k d = x) : (l.take (k + 1)).contains x = false := by
  have : l.take (k + 1) = l.take k ++ [l.getD k d] := by rw [List.take_add_one]; simp [List.getD, hk]
  rw [this, List.contains_append, h, Bool.false_or]
  cases hc : [l.getD k d].contains x with
  | false => rfl
  | true => exact absurd (List.mem_singleton.1 (List.contains_iff_mem.1 hc)).symm hne

theorem chk_full {P : ProgD} (h : fullB P = true) : checkE P = some (7, -1) := by unfold checkE; rw [if_pos h]
theorem chk_name {P : ProgD} (h : fullB P = false) (h2 : P.vars.all isNm = false ∨ (fnames P).all isNm = false) : checkE P = some (4, -1) := by
  unfold checkE
  rw [if_neg (by rw [h]; exact Bool.false_ne_true)]
  have : namesE P.vars (fnames P) = some 4 := by
    unfold namesE
    rw [if_pos]
    rcases h2 with h2 | h2
    · rw [h2]; rfl
    · rw [h2]; simp
  rw [this]
theorem chk_dup {P : ProgD} (h : fullB P = false) (h1 : P.vars.all isNm = true) (h2 : (fnames P).all isNm = true) (h3 : dup P.vars = true ∨ dup (fnames P) = true) : checkE P = some (6, -1) := by
  unfold checkE
  rw [if_neg (by rw [h]; exact Bool.false_ne_true)]
  have : namesE P.vars (fnames P) = some 6 := by
    unfold namesE
    rw [if_neg (by rw [h1, h2]; simp), if_pos]
    rcases h3 with h3 | h3
    · rw [h3]; rfl
    · rw [h3]; simp
  rw [this]
/-- What is well with the names. -/
structure NamesOk (P : ProgD) : Prop where
  full : fullB P = false
  vs : P.vars.all isNm = true
  fs : (fnames P).all isNm = true
  dv : dup P.vars = false
  df : dup (fnames P) = false
theorem NamesOk.check {P : ProgD} (h : NamesOk P) : checkE P = match funsE P with | some e => some (e, -1) | none => stmtsE P 0 P.stmts := by
  unfold checkE
  rw [if_neg (by rw [h.full]; exact Bool.false_ne_true)]
  have : namesE P.vars (fnames P) = none := by
    unfold namesE
    rw [if_neg (by rw [h.vs, h.fs]; simp), if_neg (by rw [h.dv, h.df]; simp)]
  rw [this]
  rfl
theorem chk_args {P : ProgD} (h : NamesOk P) (h1 : P.funs.all (fun f => decide (f.params.length ≤ 3)) = false) : checkE P = some (8, -1) := by
  rw [h.check]
  have : funsE P = some 8 := by unfold funsE; rw [if_pos (by rw [h1]; rfl)]
  rw [this]
theorem chk_bound {P : ProgD} (h : NamesOk P) (h1 : P.funs.all (fun f => decide (f.params.length ≤ 3)) = true) (h2 : P.funs.all (fun f => f.params.all (varB P) && varB P f.ret) = false) : checkE P = some (1, -1) := by
  rw [h.check]
  have : funsE P = some 1 := by unfold funsE; rw [if_neg (by rw [h1]; exact Bool.false_ne_true), if_pos (by rw [h2]; rfl)]
  rw [this]
theorem chk_dup2 {P : ProgD} (h : NamesOk P) (h1 : P.funs.all (fun f => decide (f.params.length ≤ 3)) = true) (h2 : P.funs.all (fun f => f.params.all (varB P) && varB P f.ret) = true) (h3 : P.funs.all (fun f => !dup f.params) = false) : checkE P = some (6, -1) := by
  rw [h.check]
  have : funsE P = some 6 := by unfold funsE; rw [if_neg (by rw [h1]; exact Bool.false_ne_true), if_neg (by rw [h2]; exact Bool.false_ne_true), if_pos (by rw [h3]; rfl)]
  rw [this]
theorem chk_stmts {P : ProgD} (h : NamesOk P) (h1 : P.funs.all (fun f => decide (f.params.length ≤ 3)) = true) (h2 : P.funs.all (fun f => f.params.all (varB P) && varB P f.ret) = true) (h3 : P.funs.all (fun f => !dup f.params) = true) : checkE P = stmtsE P 0 P.stmts := by
  rw [h.check]
  have : funsE P = none := by unfold funsE; rw [if_neg (by rw [h1]; exact Bool.false_ne_true), if_neg (by rw [h2]; exact Bool.false_ne_true), if_neg (by rw [h3]; exact Bool.false_ne_true)]
  rw [this]
theorem stmtsE_at (P : ProgD) (l : List StmtD) (b i e : Nat) (hi : i < l.length) (h : ∀ j, j < i → stmtE P (l.getD j default) = none) (he : stmtE P (l.getD i default) = some e) : stmtsE P b l = some (e, ((b + i : Nat) : Int)) := by
  induction l generalizing b i with
  | nil => simp at hi
  | cons s r ih =>
    cases i with
    | zero =>
      have : stmtE P s = some e := by simpa [List.getD] using he
      unfold stmtsE
      rw [this]; rfl
    | succ i =>
      have h0 : stmtE P s = none := by simpa [List.getD] using h 0 (by omega)
      unfold stmtsE
      rw [h0]
      have := ih (b + 1) i (by simpa using hi) (fun j hj => by simpa [List.getD] using h (j + 1) (by omega)) (by simpa [List.getD] using he)
      rw [this, show b + 1 + i = b + (i + 1) by omega]
theorem stmtsE_all (P : ProgD) (l : List StmtD) (b : Nat) (h : ∀ j, j < l.length → stmtE P (l.getD j default) = none) : stmtsE P b l = none := by
  induction l generalizing b with
  | nil => rfl
  | cons s r ih =>
    have h0 : stmtE P s = none := by simpa [List.getD] using h 0 (by simp)
    unfold stmtsE
    rw [h0]
    exact ih (b + 1) (fun j hj => by simpa [List.getD] using h (j + 1) (by simpa using hj))
theorem fnames_at (P : ProgD) (k : Nat) (h : k < P.funs.length) : (fnames P).getD k [] = (P.funs.getD k default).name := by
  unfold fnames
  simp [List.getD, h]
theorem fnames_len (P : ProgD) : (fnames P).length = P.funs.length := by unfold fnames; simp
end Go.Proofs.YtglonlpfnllocaaGreatDoor

/-
  The document's answers on programs: IsName, Has, HasText, isVar, areVars of package fingerpostref1, by contracts.
-/
namespace Go.Proofs.YtglonlpfnllocaaGreatDoor
open Go.RowKit Go.Extern.Stop Go.Stop Go.Extern

theorem isLet_t {c : UInt8} (h1 : (97 : Int) ≤ (c.toNat : Int)) (h2 : (c.toNat : Int) ≤ 122) : isLet c = true := by unfold isLet; simp; omega
theorem isLet_f1 {c : UInt8} (h : ¬ (97 : Int) ≤ (c.toNat : Int)) : isLet c = false := by unfold isLet; simp; omega
theorem isLet_f2 {c : UInt8} (h : ¬ (c.toNat : Int) ≤ 122) : isLet c = false := by unfold isLet; simp; omega
theorem isDig_t {c : UInt8} (h1 : (48 : Int) ≤ (c.toNat : Int)) (h2 : (c.toNat : Int) ≤ 57) : isDig c = true := by unfold isDig; simp; omega
theorem isDig_f1 {c : UInt8} (h : ¬ (48 : Int) ≤ (c.toNat : Int)) : isDig c = false := by unfold isDig; simp; omega
theorem isDig_f2 {c : UInt8} (h : ¬ (c.toNat : Int) ≤ 57) : isDig c = false := by unfold isDig; simp; omega
theorem ge48_of {c : UInt8} (h : (97 : Int) ≤ (c.toNat : Int)) : (48 : Int) ≤ (c.toNat : Int) := by omega
theorem not57_of {c : UInt8} (h : (97 : Int) ≤ (c.toNat : Int)) : ¬ (c.toNat : Int) ≤ 57 := by omega
theorem not122_of {c : UInt8} (h : (c.toNat : Int) ≤ 57) : ¬ (97 : Int) ≤ (c.toNat : Int) := by omega

set_option maxRecDepth 100000 in
set_option maxHeartbeats 4000000 in
theorem refName_s (s : ByteArray) (w : World) (hs : s.size ≤ 1000000) : Calls Tryz.prog 43 #[.string s] w fun e w' => e = .returned (.bool (isNm s.data.toList)) ∧ w' = w := by
  have hq := isNm_eq s.data.toList
  have hz := Lib.size_eq s
  obtain ⟨B, hB⟩ : ∃ B, B = isNm s.data.toList := ⟨_, rfl⟩
  rw [← hB] at hq ⊢
  have HQ : Hid (B = (!s.data.toList.isEmpty && decide (s.data.toList.length ≤ 8) && isLet (s.data.toList.headD 0) && s.data.toList.all nmC && nmTail s.data.toList)) := hq
  have ht : ∀ x : Bs, s.toList = x → (s.data.toList == x) = true := fun x h => by rw [← Lib.toList_data, h]; exact beq_self_eq_true x
  have hf : ∀ x : Bs, ¬ s.toList = x → (s.data.toList == x) = false := fun x h => beq_eq_false_iff_ne.2 (fun e => h (by rw [Lib.toList_data]; exact e))
  clear hB hq
  by_cases h1 : s.toList = [118, 97, 114]
  · have hb : Hid (B = false) := by show B = false; rw [HQ.out]; unfold nmTail; rw [ht kVar h1]; simp
    clear ht hf hz
    go_enter Tryz.func43, Tryz.ntmps43
    go_wp2_with fail
    go_ret
    exact ⟨by rw [hb.out]; rfl, rfl⟩
  have g1 : (s.toList == [118, 97, 114]) = false := beq_eq_false_iff_ne.2 h1
  by_cases h2 : s.toList = [102, 110]
  · have hb : Hid (B = false) := by show B = false; rw [HQ.out]; unfold nmTail; rw [ht kFn h2]; simp
    clear ht hf h1 hz
    go_enter Tryz.func43, Tryz.ntmps43
    go_wp2_with fail
    go_ret
    exact ⟨by rw [hb.out]; rfl, rfl⟩
  have g2 : (s.toList == [102, 110]) = false := beq_eq_false_iff_ne.2 h2
  by_cases h3 : s.toList = [110, 101, 119]
  · have hb : Hid (B = false) := by show B = false; rw [HQ.out]; unfold nmTail; rw [ht kNew h3]; simp
    clear ht hf h1 h2 hz
    go_enter Tryz.func43, Tryz.ntmps43
    go_wp2_with fail
    go_ret
    exact ⟨by rw [hb.out]; rfl, rfl⟩
  have g3 : (s.toList == [110, 101, 119]) = false := beq_eq_false_iff_ne.2 h3
  by_cases h4 : s.toList = [99, 97, 108, 108]
  · have hb : Hid (B = false) := by show B = false; rw [HQ.out]; unfold nmTail; rw [ht kCall h4]; simp
    clear ht hf h1 h2 h3 hz
    go_enter Tryz.func43, Tryz.ntmps43
    go_wp2_with fail
    go_ret
    exact ⟨by rw [hb.out]; rfl, rfl⟩
  have g4 : (s.toList == [99, 97, 108, 108]) = false := beq_eq_false_iff_ne.2 h4
  have HT : Hid (nmTail s.data.toList = true) := by
    show nmTail s.data.toList = true
    unfold nmTail; rw [hf kVar h1, hf kFn h2, hf kNew h3, hf kCall h4]; rfl
  clear ht hf h1 h2 h3 h4
  have HZ : Hid (s.size = s.data.toList.length) := hz
  clear hz
  go_enter Tryz.func43, Tryz.ntmps43
  go_wp2_with fail
  clear g1 g2 g3 g4
  go_loopw [3] (fun t wr => ∃ k : Nat, k ≤ s.size ∧ t = .int .i64 k ∧ wr = w ∧ (s.data.toList.take k).all nmC = true ∧ (0 < k → isLet (s.data.toList.headD 0) = true)) (fun t _ => s.size - (intOf t).toNat)
  case atStart => exact ⟨0, Nat.zero_le _, rfl, rfl, rfl, fun h => absurd h (by omega)⟩
  case round =>
    obtain ⟨k, hk, rfl, hwr, hall, hhd⟩ := hrel
    obtain rfl := hwr.symm
    have HA : Hid ((s.data.toList.take k).all nmC = true ∧ (0 < k → isLet (s.data.toList.headD 0) = true)) := ⟨hall, hhd⟩
    clear hall hhd hwr
    by_cases hlt : k < s.size
    · have hg := getD_data s k hlt
      have hkl : k < s.data.toList.length := by rw [← HZ.out]; exact hlt
      have HN : Hid (nmC (s[k]'hlt) = true → (k = 0 → isLet (s[k]'hlt) = true) → (s.data.toList.take (k + 1)).all nmC = true ∧ (0 < k + 1 → isLet (s.data.toList.headD 0) = true)) := fun hc h0 => by
        refine ⟨by rw [all_take_succ nmC _ 0 k hkl, HA.out.1, hg, hc]; rfl, fun _ => ?_⟩
        by_cases hk0 : k = 0
        · have := h0 hk0
          subst hk0
          rw [headD_data s hlt]; exact this
        · exact HA.out.2 (by omega)
      have HF : Hid (nmC (s[k]'hlt) = false → B = false) := fun g => by
        rw [HQ.out, all_not_of_at nmC _ 0 k hkl (by rw [hg]; exact g)]; simp
      have HF0 : Hid (k = 0 → isLet (s[k]'hlt) = false → B = false) := fun h0 g => by
        subst h0
        rw [HQ.out, headD_data s hlt, g]; simp
      clear hg hkl
      by_cases c1 : (97 : Int) ≤ (s[k].toNat : Int)
      · by_cases c2 : (s[k].toNat : Int) ≤ 122
        · have c3 : (48 : Int) ≤ (s[k].toNat : Int) := ge48_of c1
          have c4 : ¬ (s[k].toNat : Int) ≤ 57 := not57_of c1
          have HX : Hid ((s.data.toList.take (k + 1)).all nmC = true ∧ (0 < k + 1 → isLet (s.data.toList.headD 0) = true)) := HN.out (by unfold nmC; rw [isLet_t c1 c2]; rfl) (fun _ => isLet_t c1 c2)
          clear HN HF HF0
          go_wp2_with fail
          go_roundw
          case rel => exact ⟨k + 1, hlt, by go_num, trivial, HX.out⟩
          case measure => simp [intOf]; omega
        · have c3 : (48 : Int) ≤ (s[k].toNat : Int) := ge48_of c1
          have c4 : ¬ (s[k].toNat : Int) ≤ 57 := not57_of c1
          have HX : Hid (B = false) := HF.out (by unfold nmC; rw [isLet_f2 c2, isDig_f2 c4]; rfl)
          clear HN HF HF0
          go_wp2_with fail
          go_ret
          exact ⟨by rw [HX.out]; rfl, rfl⟩
      · by_cases c3 : (48 : Int) ≤ (s[k].toNat : Int)
        · by_cases c4 : (s[k].toNat : Int) ≤ 57
          · by_cases hk0 : k = 0
            · have HX : Hid (B = false) := HF0.out hk0 (isLet_f1 c1)
              clear HN HF HF0
              subst hk0
              go_wp2_with fail
              go_ret
              exact ⟨by rw [HX.out]; rfl, rfl⟩
            · have hk1 : ¬ (k : Int) = 0 := by omega
              have HX : Hid ((s.data.toList.take (k + 1)).all nmC = true ∧ (0 < k + 1 → isLet (s.data.toList.headD 0) = true)) := HN.out (by unfold nmC; rw [isDig_t c3 c4]; simp) (fun h => absurd h hk0)
              clear HN HF HF0
              go_wp2_with fail
              go_roundw
              case rel => exact ⟨k + 1, hlt, by go_num, trivial, HX.out⟩
              case measure => simp [intOf]; omega
          · have HX : Hid (B = false) := HF.out (by unfold nmC; rw [isLet_f1 c1, isDig_f2 c4]; rfl)
            clear HN HF HF0
            go_wp2_with fail
            go_ret
            exact ⟨by rw [HX.out]; rfl, rfl⟩
        · have HX : Hid (B = false) := HF.out (by unfold nmC; rw [isLet_f1 c1, isDig_f1 c3]; rfl)
          clear HN HF HF0
          go_wp2_with fail
          go_ret
          exact ⟨by rw [HX.out]; rfl, rfl⟩
    · have hks : k = s.data.toList.length := by rw [← HZ.out]; omega
      have ha := HA.out.1
      rw [hks, List.take_length] at ha
      by_cases h0 : (1 : Int) ≤ (s.size : Int)
      · have hh := HA.out.2 (by have := HZ.out; omega)
        have hne : s.data.toList.isEmpty = false := by
          cases he : s.data.toList with
          | nil =>
            have h9 := HZ.out
            rw [he] at h9
            have h10 : s.size = 0 := h9
            omega
          | cons x r => rfl
        by_cases h8 : (s.size : Int) ≤ 8
        · have HX : Hid (B = true) := by
            show B = true
            rw [HQ.out, ha, hh, hne, HT.out, decide_eq_true (by rw [← HZ.out]; omega)]; rfl
          clear hks ha hh hne
          go_wp2_with fail
          go_ret
          exact ⟨by rw [HX.out]; rfl, rfl⟩
        · have HX : Hid (B = false) := by
            show B = false
            rw [HQ.out, decide_eq_false (by rw [← HZ.out]; omega)]; simp
          clear hks ha hh hne
          go_wp2_with fail
          go_ret
          exact ⟨by rw [HX.out]; rfl, rfl⟩
      · have HX : Hid (B = false) := by
          show B = false
          have : s.data.toList = [] := List.eq_nil_of_length_eq_zero (by rw [← HZ.out]; omega)
          rw [HQ.out, this]; rfl
        clear hks ha
        go_wp2_with fail
        go_ret
        exact ⟨by rw [HX.out]; rfl, rfl⟩
theorem refName_any (l : Bs) (w : World) (hs : l.length ≤ 1000000) : Calls Tryz.prog 43 #[.string (S l)] w fun e w' => e = .returned (.bool (isNm l)) ∧ w' = w := by
  have := refName_s (S l) w (by rw [S_size]; exact hs)
  rwa [S_data] at this

set_option maxHeartbeats 2000000 in
/-- HasText. -/
theorem refHasText_any (ss : List Bs) (x : Bs) (v : Value) (w : World) (hm : ss.length ≤ 1000000) (h : IsStrs w v ss) : Calls Tryz.prog 83 #[v, .string (S x)] w fun e w' => e = .returned (.bool (ss.contains x)) ∧ w' = w := by
  obtain ⟨a, c, rfl, -, hc⟩ := h
  have HC : Hid (∀ j, j < ss.length → ∃ b o, a = some ⟨b, o, none⟩ ∧ w.cell? ⟨b, o + j, none⟩ = some (.string (S (ss.getD j [])))) := hc
  obtain ⟨R, hR⟩ : ∃ R, R = ss.contains x := ⟨_, rfl⟩
  rw [← hR]
  have HR : Hid (R = ss.contains x) := hR
  clear hc hR
  obtain ⟨n, hn⟩ : ∃ n, n = ss.length := ⟨_, rfl⟩
  have HN : Hid (n = ss.length) := hn
  rw [← hn] at hm ⊢
  obtain ⟨bx, hbx⟩ : ∃ b, b = S x := ⟨_, rfl⟩
  have HX : Hid (bx = S x) := hbx
  rw [← hbx]
  clear hn hbx
  go_enter Tryz.func83, Tryz.ntmps83
  go_wp2_with fail
  go_loopw [5] (fun t wr => ∃ k : Nat, k ≤ n ∧ t = .int .i64 k ∧ wr = w ∧ (ss.take k).contains x = false) (fun t _ => (n - intOf t).toNat)
  case atStart => exact ⟨0, Nat.zero_le _, rfl, rfl, rfl⟩
  case round =>
    obtain ⟨k, hk, rfl, hwr, hall⟩ := hrel
    obtain rfl := hwr.symm
    have HA : Hid ((ss.take k).contains x = false) := hall
    clear hall hwr
    by_cases hlt : k < n
    · have hl : k < ss.length := by rw [← HN.out]; exact hlt
      obtain ⟨b, o, rfl, e0⟩ := HC.out k hl
      obtain ⟨y, hy⟩ : ∃ y, y = ss.getD k [] := ⟨_, rfl⟩
      obtain ⟨by_, hby⟩ : ∃ b, b = S y := ⟨_, rfl⟩
      rw [← hy, ← hby] at e0
      have hmem : y ∈ ss := by rw [hy]; simp [List.getD, hl]
      have htk : ss.take (k + 1) = ss.take k ++ [y] := by rw [List.take_add_one, hy]; simp [List.getD, hl]
      by_cases he : y = x
      · have hb : Hid (R = true) := by show R = true; rw [HR.out]; rw [he] at hmem; exact List.contains_iff_mem.2 hmem
        have hbe : (by_.toList == bx.toList) = true := by rw [hby, HX.out, he]; exact beq_self_eq_true _
        have hbe2 : by_.toList = bx.toList := eq_of_beq hbe
        have hbe3 : by_ = bx := by rw [hby, HX.out, he]
        subst hbe3
        clear hl hy hby hmem htk he hbe hbe2
        go_wp2_with fail
        go_ret
        exact ⟨by rw [hb.out]; rfl, rfl⟩
      · have hn2 : Hid ((ss.take (k + 1)).contains x = false) := by
          show (ss.take (k + 1)).contains x = false
          rw [htk]
          have h1 := HA.out
          simp only [List.contains_eq_mem, decide_eq_false_iff_not] at h1 ⊢
          simp only [List.mem_append, List.mem_singleton, not_or]
          exact ⟨h1, fun q => he q.symm⟩
        have hbe : (by_.toList == bx.toList) = false := beq_eq_false_iff_ne.2 (fun q => he (by rw [hby, HX.out, S_toList, S_toList] at q; exact q))
        clear hl hy hby hmem htk he
        go_wp2_with fail
        go_roundw
        case rel => exact ⟨k + 1, hlt, by go_num, trivial, hn2.out⟩
        case measure => simp [intOf]; omega
    · have hb : Hid (R = false) := by
        show R = false
        have := HA.out
        rw [show k = ss.length by rw [← HN.out]; omega, List.take_length] at this
        rw [HR.out, this]
      go_wp2_with fail
      go_ret
      exact ⟨by rw [hb.out]; rfl, rfl⟩

set_option maxHeartbeats 2000000 in
/-- isVar. -/
theorem refIsVar_any (P : ProgD) (n : Int) (v1 v2 v3 : Value) (w : World) (h : IsProg w v1 v2 v3 P) : Calls Tryz.prog 45 #[.agg #[v1, v2, v3], .int .i64 n] w fun e w' => e = .returned (.bool (varB P n)) ∧ Below w.heap.size w w' := by
  obtain ⟨⟨a1, c1, rfl, -, -⟩, ⟨a2, c2, rfl, -, -⟩, ⟨a3, c3, rfl, -, -⟩⟩ := h
  by_cases g1 : 0 ≤ n
  · by_cases g2 : n < (P.vars.length : Int)
    · have e : varB P n = true := by unfold varB; simp [g1, g2]
      rw [e]; clear e
      generalize P.vars.length = m1 at *
      go_enter Tryz.func45, Tryz.ntmps45
      go_wp2_with fail
      go_ret
      exact ⟨rfl, below1 _ _⟩
    · have e : varB P n = false := by unfold varB; simp [g2]
      rw [e]; clear e
      generalize P.vars.length = m1 at *
      go_enter Tryz.func45, Tryz.ntmps45
      go_wp2_with fail
      go_ret
      exact ⟨rfl, below1 _ _⟩
  · have e : varB P n = false := by unfold varB; simp [g1]
    rw [e]; clear e
    go_enter Tryz.func45, Tryz.ntmps45
    go_wp2_with fail
    go_ret
    exact ⟨rfl, below1 _ _⟩
end Go.Proofs.YtglonlpfnllocaaGreatDoor

/-
  The document's answers on programs: Has, areVars, StmtError, Bare, Fine of package fingerpostref1, by contracts.
-/
namespace Go.Proofs.YtglonlpfnllocaaGreatDoor
open Go.RowKit Go.Extern.Stop Go.Stop Go.Extern

set_option maxHeartbeats 2000000 in
/-- Has. -/
theorem refHasQ_any (zs : List Int) (x : Int) (v : Value) (w : World) (hm : zs.length ≤ 1000000) (h : IsInts w v zs) : Calls Tryz.prog 46 #[v, .int .i64 x] w fun e w' => e = .returned (.bool (zs.contains x)) ∧ w' = w := by
  obtain ⟨a, c, rfl⟩ := isInts_form h
  have HC : Hid (∀ j, j < zs.length → ∃ b o, a = some ⟨b, o, none⟩ ∧ w.cell? ⟨b, o + j, none⟩ = some (.int .i64 (zs.getD j 0))) := fun j hj => isInts_at h j hj
  obtain ⟨R, hR⟩ : ∃ R, R = zs.contains x := ⟨_, rfl⟩
  rw [← hR]
  have HR : Hid (R = zs.contains x) := hR
  clear hR h
  obtain ⟨n, hn⟩ : ∃ n, n = zs.length := ⟨_, rfl⟩
  have HN : Hid (n = zs.length) := hn
  rw [← hn] at hm ⊢
  clear hn
  go_enter Tryz.func46, Tryz.ntmps46
  go_wp2_with fail
  go_loopw [5] (fun t wr => ∃ k : Nat, k ≤ n ∧ t = .int .i64 k ∧ wr = w ∧ (zs.take k).contains x = false) (fun t _ => (n - intOf t).toNat)
  case atStart => exact ⟨0, Nat.zero_le _, rfl, rfl, rfl⟩
  case round =>
    obtain ⟨k, hk, rfl, hwr, hall⟩ := hrel
    obtain rfl := hwr.symm
    have HA : Hid ((zs.take k).contains x = false) := hall
    clear hall hwr
    by_cases hlt : k < n
    · have hl : k < zs.length := by rw [← HN.out]; exact hlt
      obtain ⟨b, o, rfl, e0⟩ := HC.out k hl
      obtain ⟨y, hy⟩ : ∃ y, y = zs.getD k 0 := ⟨_, rfl⟩
      rw [← hy] at e0
      have hmem : y ∈ zs := by rw [hy]; simp [List.getD, hl]
      have htk : zs.take (k + 1) = zs.take k ++ [y] := by rw [List.take_add_one, hy]; simp [List.getD, hl]
      by_cases he : y = x
      · have hb : Hid (R = true) := by show R = true; rw [HR.out]; rw [he] at hmem; exact List.contains_iff_mem.2 hmem
        subst he
        clear hl hy hmem htk
        go_wp2_with fail
        go_ret
        exact ⟨by rw [hb.out]; rfl, rfl⟩
      · have hn2 : Hid ((zs.take (k + 1)).contains x = false) := by
          show (zs.take (k + 1)).contains x = false
          rw [htk]
          have h1 := HA.out
          simp only [List.contains_eq_mem, decide_eq_false_iff_not] at h1 ⊢
          simp only [List.mem_append, List.mem_singleton, not_or]
          exact ⟨h1, fun q => he q.symm⟩
        have hbe : (y == x) = false := beq_eq_false_iff_ne.2 he
        clear hl hy hmem htk
        go_wp2_with fail
        go_roundw
        case rel => exact ⟨k + 1, hlt, by go_num, trivial, hn2.out⟩
        case measure => simp [intOf]; omega
    · have hb : Hid (R = false) := by
        show R = false
        have := HA.out
        rw [show k = zs.length by rw [← HN.out]; omega, List.take_length] at this
        rw [HR.out, this]
      go_wp2_with fail
      go_ret
      exact ⟨by rw [hb.out]; rfl, rfl⟩

theorem all_take_snoc {α : Type} (p : α → Bool) (l : List α) (d : α) (k : Nat) (h : k < l.length) : (l.take (k + 1)).all p = ((l.take k).all p && p (l.getD k d)) := all_take_succ p l d k h

set_option maxHeartbeats 2000000 in
/-- areVars. -/
theorem refAreVars_any (P : ProgD) (zs : List Int) (v v1 v2 v3 : Value) (w : World) (hm : zs.length ≤ 1000000) (h : IsProg w v1 v2 v3 P) (hz : IsInts w v zs) :
    Calls Tryz.prog 44 #[.agg #[v1, v2, v3], v] w fun e w' => e = .returned (.bool (zs.all (varB P))) ∧ Below w.heap.size w w' := by
  obtain ⟨a, c, rfl⟩ := isInts_form hz
  have H : Hid (IsProg w v1 v2 v3 P) := h
  obtain ⟨W, hW⟩ : ∃ W, W = w.alloc (.cells #[v1, v2, v3] 26) := ⟨_, rfl⟩
  have hBW : Below w.heap.size w W := by rw [hW]; exact below1 w _
  have HC : Hid (∀ j, j < zs.length → ∃ b o, a = some ⟨b, o, none⟩ ∧ W.cell? ⟨b, o + j, none⟩ = some (.int .i64 (zs.getD j 0))) := fun j hj => by
    obtain ⟨b, o, h1, h2⟩ := isInts_at hz j hj
    exact ⟨b, o, h1, cell_keep hBW h2⟩
  have HX : Hid (Box3 W w.heap.size v1 v2 v3) := by
    show Box3 W _ _ _ _
    rw [hW]; exact box3_new w _ _ _ _
  obtain ⟨⟨a1, c1, rfl, -, -⟩, ⟨a2, c2, rfl, -, -⟩, ⟨a3, c3, rfl, -, -⟩⟩ := h
  obtain ⟨R, hR⟩ : ∃ R, R = zs.all (varB P) := ⟨_, rfl⟩
  rw [← hR]
  have HR : Hid (R = zs.all (varB P)) := hR
  obtain ⟨m1, hm1⟩ : ∃ m, m = P.vars.length := ⟨_, rfl⟩
  obtain ⟨m2, hm2⟩ : ∃ m, m = P.funs.length := ⟨_, rfl⟩
  obtain ⟨m3, hm3⟩ : ∃ m, m = P.stmts.length := ⟨_, rfl⟩
  obtain ⟨n, hn⟩ : ∃ n, n = zs.length := ⟨_, rfl⟩
  have HN : Hid (n = zs.length) := hn
  rw [← hn] at hm ⊢
  rw [← hm1, ← hm2, ← hm3] at H HX hW ⊢
  clear hR hz hn hm1 hm2 hm3
  go_enter Tryz.func44, Tryz.ntmps44
  go_wp2_with fail
  rw [← hW]
  clear hW
  go_loopw [5] (fun t wr => ∃ k : Nat, k ≤ n ∧ t = .int .i64 k ∧ Below W.heap.size W wr ∧ (zs.take k).all (varB P) = true) (fun t _ => (n - intOf t).toNat)
  case atStart => exact ⟨0, Nat.zero_le _, rfl, Below.refl _ _, rfl⟩
  case round =>
    obtain ⟨k, hk, rfl, hB, hall⟩ := hrel
    have HA : Hid ((zs.take k).all (varB P) = true) := hall
    clear hall
    by_cases hlt : k < n
    · have hl : k < zs.length := by rw [← HN.out]; exact hlt
      obtain ⟨b, o, rfl, e0⟩ := HC.out k hl
      obtain ⟨y, hy⟩ : ∃ y, y = zs.getD k 0 := ⟨_, rfl⟩
      rw [← hy] at e0
      obtain ⟨D, hD⟩ : ∃ D, D = varB P y := ⟨_, rfl⟩
      have HS : Hid ((zs.take (k + 1)).all (varB P) = D) := by
        show (zs.take (k + 1)).all (varB P) = D
        rw [all_take_snoc (varB P) zs 0 k hl, HA.out, ← hy, hD]; rfl
      have HF : Hid (D = false → R = false) := fun g => by
        rw [HR.out]; exact all_not_of_at (varB P) zs 0 k hl (by rw [← hy, ← hD]; exact g)
      obtain ⟨p0, p1, p2⟩ := HX.out.below hB
      have KI : ∀ d os, Calls Tryz.prog 45 #[.agg #[.slice a1 m1 c1, .slice a2 m2 c2, .slice a3 m3 c3], .int .i64 y] (Go.Sort.grow (redrawn wr d) os) fun e w'' => e = .returned (.bool D) ∧ ∃ p : Regrown, w'' = Go.Sort.grow (redrawn wr p.d) p.os := fun d os => by
        rw [hD]
        exact Calls.regrown_of (refIsVar_any P y _ _ _ _ (((H.out.below hBW).below hB).below (below_regrown wr d os)))
      have P0 := cell_regrown p0
      have P1 := cell_regrown p1
      have P2 := cell_regrown p2
      have E0 := cell_regrown (cell_keep hB e0)
      clear hl hy hD p0 p1 p2 e0
      go_wp2_with fail
      refine wp_region_quiet_below (by kernel_rfl) (by kernel_rfl) ?_
      repeat (quiet_step (first | exact KI _ _))
      refine wpQuiet_nil ?_
      intro _ hw'
      obtain ⟨⟨dq, osq⟩, hw''⟩ := hw'
      subst hw''
      have hBQ : Below W.heap.size W (Go.Sort.grow (redrawn wr dq) osq) := hB.trans ((below_regrown wr dq osq).mono hB.size)
      have hBF : Below w.heap.size w (Go.Sort.grow (redrawn wr dq) osq) := hBW.trans (hBQ.mono hBW.size)
      clear KI P0 P1 P2 E0
      cases D with
      | true =>
        go_wp2_with fail
        go_roundw
        case rel => exact ⟨k + 1, hlt, by go_num, hBQ, HS.out⟩
        case measure => simp [intOf]; omega
      | false =>
        have hb : Hid (R = false) := HF.out rfl
        go_wp2_with fail
        go_ret
        exact ⟨by rw [hb.out]; rfl, hBF⟩
    · have hb : Hid (R = true) := by
        show R = true
        have := HA.out
        rw [show k = zs.length by rw [← HN.out]; omega, List.take_length] at this
        rw [HR.out, this]
      have hBF : Below w.heap.size w wr := hBW.trans (hB.mono hBW.size)
      go_wp2_with fail
      go_ret
      exact ⟨by rw [hb.out]; rfl, hBF⟩

theorem bare_ref (n : Int) (w : World) : Calls Tryz.prog 42 #[.int .i64 n] w fun e w' => e = .returned (.agg #[.int .i64 n, .int .i64 (-1)]) ∧ Below w.heap.size w w' := by
  go_enter Tryz.func42, Tryz.ntmps42
  go_wp2_with fail
  refine bodyPost_ret (v := .agg #[.int .i64 n, .int .i64 (-1)]) (by simp [results, Tryz.results42, go_sem]) rfl ?_
  exact ⟨rfl, below1 _ _⟩
theorem fine_ref (w : World) : Calls Tryz.prog 48 #[] w fun e w' => e = .returned (.agg #[.int .i64 0, .int .i64 (-1)]) ∧ Below w.heap.size w w' := by
  go_enter Tryz.func48, Tryz.ntmps48
  go_wp2_with fail
  refine bodyPost_ret (v := .agg #[.int .i64 0, .int .i64 (-1)]) (by simp [results, Tryz.results48, go_sem]) rfl ?_
  exact ⟨rfl, below1 _ _⟩
end Go.Proofs.YtglonlpfnllocaaGreatDoor

/-
  The document's StmtError, by a contract.
-/
namespace Go.Proofs.YtglonlpfnllocaaGreatDoor
open Go.RowKit Go.Extern.Stop Go.Stop Go.Extern

def codeO : Option Nat → Int
  | none => 0
  | some i => (i : Int) + 1
def Box4 (w : World) (b : Nat) (v0 v1 v2 v3 : Value) : Prop := w.cell? ⟨b, 0, none⟩ = some v0 ∧ w.cell? ⟨b, 1, none⟩ = some v1 ∧ w.cell? ⟨b, 2, none⟩ = some v2 ∧ w.cell? ⟨b, 3, none⟩ = some v3
theorem Box4.below {w w' : World} {b : Nat} {v0 v1 v2 v3 : Value} (h : Box4 w b v0 v1 v2 v3) (hb : Below w.heap.size w w') : Box4 w' b v0 v1 v2 v3 := ⟨cell_keep hb h.1, cell_keep hb h.2.1, cell_keep hb h.2.2.1, cell_keep hb h.2.2.2⟩
theorem box4_new (w : World) (v0 v1 v2 v3 : Value) (t : TypeId) : Box4 (w.alloc (.cells #[v0, v1, v2, v3] t)) w.heap.size v0 v1 v2 v3 := ⟨by simp, by simp, by simp, by simp⟩

abbrev oKinds : Obj := .cells #[.string ⟨#[97, 100, 100, 114]⟩, .string ⟨#[99, 111, 112, 121]⟩, .string ⟨#[108, 111, 97, 100]⟩, .string ⟨#[115, 116, 111, 114, 101]⟩, .string ⟨#[110, 101, 119]⟩, .string ⟨#[102, 117, 110]⟩, .string ⟨#[99, 97, 108, 108]⟩] 9
theorem kinds_is (w : World) : IsStrs (w.alloc oKinds) (.slice (some ⟨w.heap.size, 0, none⟩) 7 7) kinds := by
  refine ⟨_, _, rfl, Nat.le_refl _, fun j hj => ⟨_, _, rfl, ?_⟩⟩
  match j, hj with
  | 0, _ => simp [kinds, S, kAddr]
  | 1, _ => simp [kinds, S, kCopy]
  | 2, _ => simp [kinds, S, kLoad]
  | 3, _ => simp [kinds, S, kStore]
  | 4, _ => simp [kinds, S, kNew]
  | 5, _ => simp [kinds, S, kFun]
  | 6, _ => simp [kinds, S, kCall]

/-- stmtE by its tests. -/
theorem stmtE_by (P : ProgD) (s : StmtD) (K X Y A C E N Z : Bool) (hK : K = kinds.contains s.kind) (hX : X = varB P s.x) (hY : Y = yB P s) (hA : A = s.args.all (varB P)) (hC : C = (s.kind == kCall)) (hE : E = decide (3 < s.args.length)) (hN : N = s.args.isEmpty) (hZ : Z = (s.kind == kNew && !(s.y == 0))) :
    stmtE P s = if !K then some 3 else if !X || !Y || !A then some 1 else if C && E then some 8 else if (!C && !N) || Z then some 2 else none := by
  subst hK hX hY hA hC hE hN hZ
  rfl

set_option maxRecDepth 100000 in
set_option maxHeartbeats 8000000 in
theorem refStmtErr_any (P : ProgD) (s : StmtD) (pv v1 v2 v3 : Value) (w : World) (hm : s.args.length ≤ 1000000) (h : IsProg w v1 v2 v3 P) (hz : IsInts w pv s.args) :
    Calls Tryz.prog 47 #[.agg #[v1, v2, v3], .agg #[.string (S s.kind), .int .i64 s.x, .int .i64 s.y, pv]] w fun e w' => e = .returned (.int .i64 (codeO (stmtE P s))) ∧ Below w.heap.size w w' := by
  obtain ⟨pa, pc, rfl⟩ := isInts_form hz
  have H : Hid (IsProg w v1 v2 v3 P) := h
  have HZ : Hid (IsInts w (.slice pa s.args.length pc) s.args) := hz
  obtain ⟨⟨a1, c1, rfl, -, -⟩, ⟨a2, c2, rfl, -, -⟩, ⟨a3, c3, rfl, -, -⟩⟩ := h
  obtain ⟨m1, hm1⟩ : ∃ m, m = P.vars.length := ⟨_, rfl⟩
  obtain ⟨m2, hm2⟩ : ∃ m, m = P.funs.length := ⟨_, rfl⟩
  obtain ⟨m3, hm3⟩ : ∃ m, m = P.stmts.length := ⟨_, rfl⟩
  obtain ⟨n, hn⟩ : ∃ n, n = s.args.length := ⟨_, rfl⟩
  obtain ⟨bk, hbk⟩ : ∃ b, b = S s.kind := ⟨_, rfl⟩
  obtain ⟨x, hx⟩ : ∃ x, x = s.x := ⟨_, rfl⟩
  obtain ⟨y, hy⟩ : ∃ y, y = s.y := ⟨_, rfl⟩
  obtain ⟨K, hK⟩ : ∃ D, D = kinds.contains s.kind := ⟨_, rfl⟩
  obtain ⟨X, hX⟩ : ∃ D, D = varB P s.x := ⟨_, rfl⟩
  obtain ⟨Yv, hYv⟩ : ∃ D, D = varB P s.y := ⟨_, rfl⟩
  obtain ⟨A, hA⟩ : ∃ D, D = s.args.all (varB P) := ⟨_, rfl⟩
  obtain ⟨R, hR⟩ : ∃ R, R = codeO (stmtE P s) := ⟨_, rfl⟩
  have htl : ∀ z : Bs, (bk.toList == z) = (s.kind == z) := fun z => by rw [hbk, S_toList]
  have HQ : Hid (∀ Y C E N Z, Y = yB P s → C = (s.kind == kCall) → E = decide (3 < n) → N = decide (n = 0) → Z = (s.kind == kNew && !(y == 0)) → R = codeO (if !K then some 3 else if !X || !Y || !A then some 1 else if C && E then some 8 else if (!C && !N) || Z then some 2 else none)) := fun Y C E N Z h1 h2 h3 h4 h5 => by
    rw [hR, stmtE_by P s K X Y A C E N Z hK hX h1 hA h2 (by rw [h3, hn]) (by rw [h4, hn]; cases s.args <;> simp) (by rw [h5, hy])]
  have HYB : Hid (∀ F N, F = (s.kind == kFun) → N = (s.kind == kNew) → yB P s = if F then (decide (0 ≤ y) && decide (y < (m2 : Int))) else if N then true else Yv) := fun F N h1 h2 => by
    rw [h1, h2, hy, hm2, hYv]; rfl
  have HTL : Hid (∀ z : Bs, (bk.toList == z) = (s.kind == z)) := htl
  rw [← hR]
  rw [← hn] at HZ hm ⊢
  rw [← hm1, ← hm2, ← hm3] at H ⊢
  rw [← hx, ← hy, ← hbk]
  obtain ⟨W, hW⟩ : ∃ W, W = ((w.alloc (.cells #[.slice a1 m1 c1, .slice a2 m2 c2, .slice a3 m3 c3] 26)).alloc (.cells #[.string bk, .int .i64 x, .int .i64 y, .slice pa n pc] 45)).alloc oKinds := ⟨_, rfl⟩
  have hBW : Below w.heap.size w W := by rw [hW]; exact ((below1 w _).alloc (by simp) _).alloc (by simp; omega) _
  have HKN : Hid (∀ wx, Below W.heap.size W wx → IsProg wx (.slice a1 m1 c1) (.slice a2 m2 c2) (.slice a3 m3 c3) P ∧ IsInts wx (.slice pa n pc) s.args ∧ Box3 wx w.heap.size (.slice a1 m1 c1) (.slice a2 m2 c2) (.slice a3 m3 c3) ∧ Box4 wx (w.heap.size + 1) (.string bk) (.int .i64 x) (.int .i64 y) (.slice pa n pc) ∧ Below w.heap.size w wx) := fun wx hb => by
    refine ⟨(H.out.below hBW).below hb, (HZ.out.below hBW).below hb, ?_, ?_, hBW.trans (hb.mono hBW.size)⟩
    · refine Box3.below ?_ hb
      rw [hW]
      exact ((box3_new w _ _ _ _).below (below1 _ _)).below (below1 _ _)
    · refine Box4.below ?_ hb
      rw [hW]
      have := (box4_new (w.alloc (.cells #[.slice a1 m1 c1, .slice a2 m2 c2, .slice a3 m3 c3] 26)) (.string bk) (.int .i64 x) (.int .i64 y) (.slice pa n pc) 45).below (below1 _ oKinds)
      rw [World.size_alloc] at this
      exact this
  have K1 : Hid (Calls Tryz.prog 83 #[.slice (some ⟨w.heap.size + 1 + 1, 0, none⟩) 7 7, .string bk] W fun e w' => e = .returned (.bool K) ∧ w' = W) := by
    rw [hbk, hK]
    refine refHasText_any kinds s.kind _ W (by decide) ?_
    rw [hW]
    have := kinds_is ((w.alloc (.cells #[.slice a1 m1 c1, .slice a2 m2 c2, .slice a3 m3 c3] 26)).alloc (.cells #[.string bk, .int .i64 x, .int .i64 y, .slice pa n pc] 45))
    simp only [World.size_alloc] at this
    exact this
  have K2 : Hid (∀ wx, Below W.heap.size W wx → Calls Tryz.prog 45 #[.agg #[.slice a1 m1 c1, .slice a2 m2 c2, .slice a3 m3 c3], .int .i64 x] wx fun e w' => e = .returned (.bool X) ∧ Below wx.heap.size wx w') := fun wx hb => by
    rw [hX, hx]; exact refIsVar_any P s.x _ _ _ wx (HKN.out wx hb).1
  have K3 : Hid (∀ wx, Below W.heap.size W wx → Calls Tryz.prog 45 #[.agg #[.slice a1 m1 c1, .slice a2 m2 c2, .slice a3 m3 c3], .int .i64 y] wx fun e w' => e = .returned (.bool Yv) ∧ Below wx.heap.size wx w') := fun wx hb => by
    rw [hYv, hy]; exact refIsVar_any P s.y _ _ _ wx (HKN.out wx hb).1
  have K4 : Hid (∀ wx, Below W.heap.size W wx → Calls Tryz.prog 44 #[.agg #[.slice a1 m1 c1, .slice a2 m2 c2, .slice a3 m3 c3], .slice pa n pc] wx fun e w' => e = .returned (.bool A) ∧ Below wx.heap.size wx w') := fun wx hb => by
    rw [hA]; exact refAreVars_any P s.args _ _ _ _ wx (by omega) (HKN.out wx hb).1 (HKN.out wx hb).2.1
  rw [hW] at K1
  clear hm1 hm2 hm3 hn hbk hx hy hK hX hYv hA hR hz htl
  go_enter Tryz.func47, Tryz.ntmps47
  go_wp2_with fail
  refine K1.out.mono ?_
  rintro e w1 ⟨rfl, hw1⟩
  rw [← hW] at hw1
  obtain rfl := hw1.symm
  clear K1 hw1 hW
  have hB0 := Below.refl W.heap.size W
  cases K with
  | false =>
    have hF := (HKN.out W hB0).2.2.2.2
    have HR : Hid (R = 4) := HQ.out _ _ _ _ _ rfl rfl rfl rfl rfl
    clear hB0
    go_wp2_with fail
    go_ret
    exact ⟨by rw [HR.out]; rfl, hF⟩
  | true =>
  obtain ⟨-, -, ⟨p0, p1, p2⟩, ⟨s0, s1, s2, s3⟩, -⟩ := HKN.out W hB0
  go_wp2_with fail
  refine (K2.out _ hB0).mono ?_
  rintro e w2 ⟨rfl, hB2⟩
  clear K2 p0 p1 p2 s0 s1 s2 s3 hB0
  obtain ⟨-, -, ⟨p0, p1, p2⟩, ⟨s0, s1, s2, s3⟩, -⟩ := HKN.out w2 hB2
  go_wp2_with fail
  refine (K3.out _ hB2).mono ?_
  rintro e w3 ⟨rfl, hB3'⟩
  have hB3 := hB2.trans (hB3'.mono hB2.size)
  clear K3 p0 p1 p2 s0 s1 s2 s3 hB3' hB2
  obtain ⟨-, -, ⟨p0, p1, p2⟩, ⟨s0, s1, s2, s3⟩, -⟩ := HKN.out w3 hB3
  obtain ⟨F, hF⟩ : ∃ F, (bk.toList == [102, 117, 110]) = F := ⟨_, rfl⟩
  obtain ⟨N, hN⟩ : ∃ N, (bk.toList == [110, 101, 119]) = N := ⟨_, rfl⟩
  obtain ⟨C, hC⟩ : ∃ C, (bk.toList == [99, 97, 108, 108]) = C := ⟨_, rfl⟩
  obtain ⟨Y0, hY0⟩ : ∃ Y0, Y0 = if F then (decide (0 ≤ y) && decide (y < (m2 : Int))) else Yv := ⟨_, rfl⟩
  obtain ⟨Y, hY⟩ : ∃ Y, Y = if N then true else Y0 := ⟨_, rfl⟩
  have HFN : Hid (F = true → N = false) := fun h => by
    rw [h] at hF
    rw [eq_of_beq hF] at hN
    rw [← hN]; rfl
  have HYE : Hid (Y = yB P s) := by
    show Y = yB P s
    rw [HYB.out F N (by rw [← hF, HTL.out]; rfl) (by rw [← hN, HTL.out]; rfl), hY, hY0]
    cases F with
    | true => rw [HFN.out rfl]; rfl
    | false => rfl
  go_upto_if 23 with fail
  go_cut [6] (fun s6 wx => s6 = .bool Y0 ∧ wx = w3)
  case first =>
    cases F with
    | true =>
      by_cases g1 : 0 ≤ y
      · by_cases g2 : y < (m2 : Int)
        · have hy0 : Y0 = true := by rw [hY0]; simp [g1, g2]
          clear hY hY0
          go_wp2_with fail
          go_meet
          exact ⟨by rw [hy0], rfl⟩
        · have hy0 : Y0 = false := by rw [hY0]; simp [g2]
          clear hY hY0
          go_wp2_with fail
          go_meet
          exact ⟨by rw [hy0], rfl⟩
      · have hy0 : Y0 = false := by rw [hY0]; simp [g1]
        clear hY hY0
        go_wp2_with fail
        go_meet
        exact ⟨by rw [hy0], rfl⟩
    | false =>
      have hy0 : Y0 = Yv := by rw [hY0]; rfl
      clear hY hY0
      go_wp2_with fail
      go_meet
      exact ⟨by rw [hy0], rfl⟩
  case rest =>
  obtain ⟨rfl, hwc⟩ := hcut
  obtain rfl := hwc
  clear hF hY0
  go_upto_if 37 with fail
  obtain ⟨wd, rfl⟩ : ∃ wd, wd = wc := ⟨_, rfl⟩
  go_cut [6] (fun s6 wx => s6 = .bool Y ∧ wx = wd)
  case first =>
    cases N with
    | true =>
      have hy0 : Y = true := by rw [hY]; rfl
      clear hY
      go_wp2_with fail
      go_meet
      exact ⟨by rw [hy0], rfl⟩
    | false =>
      have hy0 : Y = Y0 := by rw [hY]; rfl
      clear hY
      go_wp2_with fail
      go_meet
      exact ⟨by rw [hy0], rfl⟩
  case rest =>
  obtain ⟨rfl, hwc⟩ := hcut
  obtain rfl := hwc
  clear hY
  go_wp2_with fail
  refine (K4.out _ hB3).mono ?_
  rintro e w4 ⟨rfl, hB4'⟩
  have hB4 := hB3.trans (hB4'.mono hB3.size)
  clear K4 p0 p1 p2 s0 s1 s2 s3 hB4' hB3
  obtain ⟨-, -, ⟨p0, p1, p2⟩, ⟨s0, s1, s2, s3⟩, hBF⟩ := HKN.out w4 hB4
  have HQ2 : Hid (∀ E N' Z, E = decide (3 < n) → N' = decide (n = 0) → Z = (N && !(y == 0)) → R = codeO (if !true then some 3 else if !X || !Y || !A then some 1 else if C && E then some 8 else if (!C && !N') || Z then some 2 else none)) := fun E N' Z h1 h2 h3 =>
    HQ.out Y C E N' Z HYE.out (by rw [← hC, HTL.out]; rfl) h1 h2 (by rw [h3, ← hN, HTL.out]; rfl)
  have HCN : Hid (C = true → N = false) := fun h => by
    rw [h] at hC
    rw [eq_of_beq hC] at hN
    rw [← hN]; rfl
  clear HQ HYE HYB HFN
  cases X with
  | false =>
    have HR : Hid (R = 2) := HQ2.out _ _ _ rfl rfl rfl
    clear HQ2
    go_wp2_with fail
    go_ret
    exact ⟨by rw [HR.out]; rfl, hBF⟩
  | true =>
  cases Y with
  | false =>
    have HR : Hid (R = 2) := HQ2.out _ _ _ rfl rfl rfl
    clear HQ2
    go_wp2_with fail
    go_ret
    exact ⟨by rw [HR.out]; rfl, hBF⟩
  | true =>
  cases A with
  | false =>
    have HR : Hid (R = 2) := HQ2.out _ _ _ rfl rfl rfl
    clear HQ2
    go_wp2_with fail
    go_ret
    exact ⟨by rw [HR.out]; rfl, hBF⟩
  | true =>
  cases C with
  | true =>
    by_cases g : 3 < (n : Int)
    · have HR : Hid (R = 9) := HQ2.out true _ _ (by simp; omega) rfl rfl
      clear HQ2
      go_wp2_with fail
      go_ret
      exact ⟨by rw [HR.out]; rfl, hBF⟩
    · have HR : Hid (R = 0) := by
        show R = 0
        rw [HQ2.out false (decide (n = 0)) (N && !(y == 0)) (by simp; omega) rfl rfl, HCN.out rfl]; rfl
      clear HQ2
      go_wp2_with fail
      go_ret
      exact ⟨by rw [HR.out]; rfl, hBF⟩
  | false =>
    by_cases g : 0 < (n : Int)
    · have HR : Hid (R = 3) := HQ2.out _ false _ rfl (by simp; omega) rfl
      clear HQ2
      go_wp2_with fail
      go_ret
      exact ⟨by rw [HR.out]; rfl, hBF⟩
    · cases N with
      | false =>
        have HR : Hid (R = 0) := HQ2.out _ true _ rfl (by simp; omega) rfl
        clear HQ2
        go_wp2_with fail
        go_ret
        exact ⟨by rw [HR.out]; rfl, hBF⟩
      | true =>
        by_cases g0 : y = 0
        · have HR : Hid (R = 0) := HQ2.out _ true false rfl (by simp; omega) (by rw [g0]; rfl)
          subst g0
          clear HQ2
          go_wp2_with fail
          go_ret
          exact ⟨by rw [HR.out]; rfl, hBF⟩
        · have HR : Hid (R = 3) := HQ2.out _ true true rfl (by simp; omega) (by simp [g0])
          have g1 : (y != 0) = true := by simp [g0]
          clear HQ2
          go_wp2_with fail
          go_ret
          exact ⟨by rw [HR.out]; rfl, hBF⟩
end Go.Proofs.YtglonlpfnllocaaGreatDoor

/-
  The document's ProgramFault, by a contract.
-/
namespace Go.Proofs.YtglonlpfnllocaaGreatDoor
open Go.RowKit Go.Extern.Stop Go.Stop Go.Extern

theorem new_block (w : World) (o : Obj) : (w.alloc o).heap[w.heap.size]? = some o := by
  show (w.heap.push o)[w.heap.size]? = some o
  simp
theorem keep_block {w w' : World} {b : Nat} {o : Obj} (hb : Below w.heap.size w w') (h : w.heap[b]? = some o) : w'.heap[b]? = some o := by
  rw [hb.block b (Array.getElem?_eq_some_iff.1 h).1]; exact h
theorem getD_mem {α : Type} (l : List α) (d : α) (k : Nat) (h : k < l.length) : l.getD k d ∈ l := by simp [List.getD, h]
theorem isInts_take {w : World} {a : Option Addr} {n c : Nat} {zs : List Int} (h : IsInts w (.slice a n c) zs) (k : Nat) (hk : k < zs.length) : IsInts w (.slice a k c) (zs.take k) := by
  have hl : (zs.take k).length = k := by rw [List.length_take]; omega
  obtain ⟨b, o, rfl, _⟩ := isInts_at h k hk
  refine isInts_of_cells hl.symm fun j hj => ?_
  rw [hl] at hj
  obtain ⟨b', o', e, hc⟩ := isInts_at h j (by omega)
  cases e
  rw [hc]
  simp [List.getD, hj]

set_option maxRecDepth 100000 in
set_option maxHeartbeats 16000000 in
theorem refFault_any (P : ProgD) (v1 v2 v3 : Value) (w : World) (hs : SmallP P) (hn : SmallN P) (h : IsProg w v1 v2 v3 P) :
    Calls Tryz.prog 20 #[.agg #[v1, v2, v3]] w fun e w' => e = .returned (.agg #[.int .i64 (codeE (checkE P)), .int .i64 (placeE (checkE P))]) ∧ Below w.heap.size w w' := by
  have H : Hid (IsProg w v1 v2 v3 P) := h
  have HS : Hid (SmallP P) := hs
  have HSN : Hid (SmallN P) := hn
  obtain ⟨⟨a1, c1, rfl, -, -⟩, ⟨a2, c2, rfl, -, -⟩, ⟨a3, c3, rfl, -, -⟩⟩ := h
  obtain ⟨n1, hn1⟩ : ∃ m, m = P.vars.length := ⟨_, rfl⟩
  obtain ⟨n2, hn2⟩ : ∃ m, m = P.funs.length := ⟨_, rfl⟩
  obtain ⟨n3, hn3⟩ : ∃ m, m = P.stmts.length := ⟨_, rfl⟩
  have HN : Hid (n1 = P.vars.length ∧ n2 = P.funs.length ∧ n3 = P.stmts.length) := ⟨hn1, hn2, hn3⟩
  have hs1 : n1 ≤ 100000 := by rw [hn1]; exact hs.1
  have hs2 : n2 ≤ 100000 := by rw [hn2]; exact hs.2.1
  have hs3 : n3 ≤ 100000 := by rw [hn3]; exact hs.2.2.1
  obtain ⟨R, hR⟩ : ∃ R, R = checkE P := ⟨_, rfl⟩
  have HRR : Hid (R = checkE P) := hR
  rw [← hR]
  rw [← hn1, ← hn2, ← hn3] at H ⊢
  obtain ⟨W, hW⟩ : ∃ W, W = (w.alloc (.cells #[.slice a1 n1 c1, .slice a2 n2 c2, .slice a3 n3 c3] 26)).alloc (.cells #[.int .i64 0, .int .i64 0] 52) := ⟨_, rfl⟩
  have hBW : Below w.heap.size w W := by rw [hW]; exact (below1 w _).alloc (by simp) _
  have hblk : W.heap[w.heap.size + 1]? = some (.cells #[.int .i64 0, .int .i64 0] 52 (0, 0)) := by
    rw [hW]
    have := new_block (w.alloc (.cells #[.slice a1 n1 c1, .slice a2 n2 c2, .slice a3 n3 c3] 26)) (.cells #[.int .i64 0, .int .i64 0] 52)
    rw [World.size_alloc] at this
    exact this
  have HKN : Hid (∀ wx, Below W.heap.size W wx → IsProg wx (.slice a1 n1 c1) (.slice a2 n2 c2) (.slice a3 n3 c3) P ∧ Box3 wx w.heap.size (.slice a1 n1 c1) (.slice a2 n2 c2) (.slice a3 n3 c3) ∧ (wx.cell? ⟨w.heap.size + 1, 0, none⟩ = some (.int .i64 0) ∧ wx.cell? ⟨w.heap.size + 1, 1, none⟩ = some (.int .i64 0) ∧ wx.frozen? ⟨w.heap.size + 1, 0, none⟩ = false ∧ wx.frozen? ⟨w.heap.size + 1, 1, none⟩ = false) ∧ ∀ x0 x1, Below w.heap.size w ((wx.setCell ⟨w.heap.size + 1, 0, none⟩ x0).setCell ⟨w.heap.size + 1, 1, none⟩ x1)) := fun wx hb => by
    have hbk := keep_block hb hblk
    refine ⟨(H.out.below hBW).below hb, ?_, ⟨by rw [Lib.cell_of_heap hbk]; rfl, by rw [Lib.cell_of_heap hbk]; rfl, Lib.frozen_of_heap hbk 0, Lib.frozen_of_heap hbk 1⟩, fun x0 x1 => ((hBW.trans (hb.mono hBW.size)).setCell (Nat.le_succ _) _).setCell (Nat.le_succ _) _⟩
    refine Box3.below ?_ hb
    rw [hW]
    exact (box3_new w _ _ _ _).below (below1 _ _)
  clear hR hn1 hn2 hn3 hs hn hblk
  have hB := Below.refl W.heap.size W
  obtain ⟨p0, p1, p2⟩ := (HKN.out W hB).2.1
  go_enter Tryz.func20, Tryz.ntmps20
  go_upto_region 1 with fail
  rw [← hW]
  clear hW
  by_cases g1 : 40 < (n1 : Int)
  · have HR : Hid (R = some (7, -1)) := by show R = _; rw [HRR.out]; exact chk_full (by unfold fullB; rw [← HN.out.1]; simp; omega)
    go_wp2_with fail
    refine (bare_ref 8 _).mono ?_
    rintro e wz ⟨rfl, hBz⟩
    obtain ⟨-, -, ⟨c0, c1, f0, f1⟩, hfin⟩ := HKN.out wz ((hB).trans (hBz.mono (hB).size))
    go_wp2_with fail
    refine bodyPost_ret (v := .agg #[.int .i64 8, .int .i64 (-1)]) (by simp [results, Tryz.results20, go_sem, c0, c1]) rfl ?_
    exact ⟨by rw [HR.out]; rfl, hfin _ _⟩
  by_cases g2 : 6 < (n2 : Int)
  · have HR : Hid (R = some (7, -1)) := by show R = _; rw [HRR.out]; exact chk_full (by unfold fullB; rw [← HN.out.2.1]; simp; omega)
    go_wp2_with fail
    refine (bare_ref 8 _).mono ?_
    rintro e wz ⟨rfl, hBz⟩
    obtain ⟨-, -, ⟨c0, c1, f0, f1⟩, hfin⟩ := HKN.out wz ((hB).trans (hBz.mono (hB).size))
    go_wp2_with fail
    refine bodyPost_ret (v := .agg #[.int .i64 8, .int .i64 (-1)]) (by simp [results, Tryz.results20, go_sem, c0, c1]) rfl ?_
    exact ⟨by rw [HR.out]; rfl, hfin _ _⟩
  by_cases g3 : 80 < (n3 : Int)
  · have HR : Hid (R = some (7, -1)) := by show R = _; rw [HRR.out]; exact chk_full (by unfold fullB; rw [← HN.out.2.2]; simp; omega)
    go_wp2_with fail
    refine (bare_ref 8 _).mono ?_
    rintro e wz ⟨rfl, hBz⟩
    obtain ⟨-, -, ⟨c0, c1, f0, f1⟩, hfin⟩ := HKN.out wz ((hB).trans (hBz.mono (hB).size))
    go_wp2_with fail
    refine bodyPost_ret (v := .agg #[.int .i64 8, .int .i64 (-1)]) (by simp [results, Tryz.results20, go_sem, c0, c1]) rfl ?_
    exact ⟨by rw [HR.out]; rfl, hfin _ _⟩
  have HFU : Hid (fullB P = false) := by
    show fullB P = false
    unfold fullB; rw [← HN.out.1, ← HN.out.2.1, ← HN.out.2.2]; simp; omega
  go_wp2_with fail
  clear p0 p1 p2 g1 g2 g3
  go_loopw [3] (fun t wr => ∃ k : Nat, k ≤ n1 ∧ t = .int .i64 k ∧ Below W.heap.size W wr ∧ (P.vars.take k).all isNm = true) (fun t _ => (n1 - intOf t).toNat)
  case atStart => exact ⟨0, Nat.zero_le _, rfl, hB, rfl⟩
  case round =>
    clear hB
    obtain ⟨k, hk, rfl, hB, hall⟩ := hrel
    have HA : Hid ((P.vars.take k).all isNm = true) := hall
    clear hall
    obtain ⟨hp, ⟨p0, p1, p2⟩, -, -⟩ := HKN.out wr hB
    by_cases hlt : k < n1
    · have hl : k < P.vars.length := by rw [← HN.out.1]; exact hlt
      obtain ⟨_, _, hv, _, hst⟩ := hp.vars
      obtain ⟨b, o, ha, e0⟩ := hst k hl
      obtain rfl : a1 = some ⟨b, o, none⟩ := by rw [← ha]; exact (Value.slice.inj hv).1
      obtain ⟨z, hz⟩ : ∃ z, z = P.vars.getD k [] := ⟨_, rfl⟩
      obtain ⟨D, hD⟩ : ∃ D, D = isNm z := ⟨_, rfl⟩
      obtain ⟨bz, hbz⟩ : ∃ b, b = S z := ⟨_, rfl⟩
      rw [← hz, ← hbz] at e0
      have KN : Hid (Calls Tryz.prog 43 #[.string bz] wr fun e w' => e = .returned (.bool D) ∧ w' = wr) := by
        rw [hD, hbz]; exact refName_any z wr (HSN.out.1 z (by rw [hz]; exact getD_mem _ _ _ hl))
      have HX : Hid ((P.vars.take (k + 1)).all isNm = D) := by
        show (P.vars.take (k + 1)).all isNm = D
        rw [all_take_snoc isNm P.vars [] k hl, HA.out, ← hz, hD]; rfl
      have HF : Hid (D = false → R = some (4, -1)) := fun g => by
        rw [HRR.out]; exact chk_name HFU.out (Or.inl (all_not_of_at isNm P.vars [] k hl (by rw [← hz, ← hD]; exact g)))
      clear hv hst ha hl hz hD hbz HA hp
      go_wp2_with fail
      refine KN.out.mono ?_
      rintro e wy ⟨rfl, hw⟩
      obtain rfl := hw.symm
      clear hw KN
      cases D with
      | true =>
        go_wp2_with fail
        go_roundw
        case rel => exact ⟨k + 1, hlt, by go_num, hB, HX.out⟩
        case measure => simp [intOf]; omega
      | false =>
        have HR : Hid (R = some (4, -1)) := HF.out rfl
        clear HX HF p0 p1 p2 e0
        go_wp2_with fail
        refine (bare_ref 5 _).mono ?_
        rintro e wz ⟨rfl, hBz⟩
        obtain ⟨-, -, ⟨c0, c1, f0, f1⟩, hfin⟩ := HKN.out wz ((hB).trans (hBz.mono (hB).size))
        go_wp2_with fail
        refine bodyPost_ret (v := .agg #[.int .i64 5, .int .i64 (-1)]) (by simp [results, Tryz.results20, go_sem, c0, c1]) rfl ?_
        exact ⟨by rw [HR.out]; rfl, hfin _ _⟩
    · have HV : Hid (P.vars.all isNm = true) := by
        show P.vars.all isNm = true
        have := HA.out
        rw [show k = P.vars.length by rw [← HN.out.1]; omega, List.take_length] at this
        exact this
      obtain ⟨wa, rfl⟩ : ∃ wa, wa = wr := ⟨_, rfl⟩
      clear HA hp
      go_wp2_with fail
      clear p0 p1 p2 hlt hk
      go_loopw [5] (fun t wr => ∃ k : Nat, k ≤ n2 ∧ t = .int .i64 k ∧ Below W.heap.size W wr ∧ ((fnames P).take k).all isNm = true) (fun t _ => (n2 - intOf t).toNat)
      case atStart => exact ⟨0, Nat.zero_le _, rfl, hB, rfl⟩
      case round =>
        clear hB
        obtain ⟨k, hk, rfl, hB, hall⟩ := hrel
        have HA : Hid (((fnames P).take k).all isNm = true) := hall
        clear hall
        obtain ⟨hp, ⟨p0, p1, p2⟩, -, -⟩ := HKN.out wr hB
        by_cases hlt : k < n2
        · have hl : k < P.funs.length := by rw [← HN.out.2.1]; exact hlt
          obtain ⟨_, _, hv, _, hst⟩ := hp.funs
          obtain ⟨b, o, ha, e0⟩ := hst k hl
          obtain rfl : a2 = some ⟨b, o, none⟩ := by rw [← ha]; exact (Value.slice.inj hv).1
          obtain ⟨f, hf⟩ : ∃ f, f = P.funs.getD k default := ⟨_, rfl⟩
          rw [← hf] at e0
          obtain ⟨pv, r0, r1, hi, r2⟩ := e0
          have hl2 : k < (fnames P).length := by rw [fnames_len]; exact hl
          have hz : (fnames P).getD k [] = f.name := by rw [fnames_at P k hl, hf]
          obtain ⟨D, hD⟩ : ∃ D, D = isNm f.name := ⟨_, rfl⟩
          obtain ⟨bz, hbz⟩ : ∃ b, b = S f.name := ⟨_, rfl⟩
          rw [← hbz] at r0
          have KN : Hid (Calls Tryz.prog 43 #[.string bz] wr fun e w' => e = .returned (.bool D) ∧ w' = wr) := by
            rw [hD, hbz]; exact refName_any f.name wr (HSN.out.2 f (by rw [hf]; exact getD_mem _ _ _ hl))
          have HX : Hid (((fnames P).take (k + 1)).all isNm = D) := by
            show ((fnames P).take (k + 1)).all isNm = D
            rw [all_take_snoc isNm (fnames P) [] k hl2, HA.out, hz, hD]; rfl
          have HF : Hid (D = false → R = some (4, -1)) := fun g => by
            rw [HRR.out]; exact chk_name HFU.out (Or.inr (all_not_of_at isNm (fnames P) [] k hl2 (by rw [hz, ← hD]; exact g)))
          clear hv hst ha hl hl2 hz hD hbz HA hp hf r1 r2 hi
          go_wp2_with fail
          refine KN.out.mono ?_
          rintro e wy ⟨rfl, hw⟩
          obtain rfl := hw.symm
          clear hw KN
          cases D with
          | true =>
            go_wp2_with fail
            go_roundw
            case rel => exact ⟨k + 1, hlt, by go_num, hB, HX.out⟩
            case measure => simp [intOf]; omega
          | false =>
            have HR : Hid (R = some (4, -1)) := HF.out rfl
            clear HX HF p0 p1 p2 r0
            go_wp2_with fail
            refine (bare_ref 5 _).mono ?_
            rintro e wz ⟨rfl, hBz⟩
            obtain ⟨-, -, ⟨c0, c1, f0, f1⟩, hfin⟩ := HKN.out wz ((hB).trans (hBz.mono (hB).size))
            go_wp2_with fail
            refine bodyPost_ret (v := .agg #[.int .i64 5, .int .i64 (-1)]) (by simp [results, Tryz.results20, go_sem, c0, c1]) rfl ?_
            exact ⟨by rw [HR.out]; rfl, hfin _ _⟩
        · have HVF : Hid ((fnames P).all isNm = true) := by
            show (fnames P).all isNm = true
            have := HA.out
            rw [show k = (fnames P).length by rw [fnames_len, ← HN.out.2.1]; omega, List.take_length] at this
            exact this
          obtain ⟨wa, rfl⟩ : ∃ wa, wa = wr := ⟨_, rfl⟩
          clear HA hp
          go_wp2_with fail
          clear p0 p1 p2 hlt hk
          go_loopw [7] (fun t wr => ∃ k : Nat, k ≤ n1 ∧ t = .int .i64 k ∧ Below W.heap.size W wr ∧ dup (P.vars.take k) = false) (fun t _ => (n1 - intOf t).toNat)
          case atStart => exact ⟨0, Nat.zero_le _, rfl, hB, rfl⟩
          case round =>
            clear hB
            obtain ⟨k, hk, rfl, hB, hall⟩ := hrel
            have HA : Hid (dup (P.vars.take k) = false) := hall
            clear hall
            obtain ⟨hp, ⟨p0, p1, p2⟩, -, -⟩ := HKN.out wr hB
            by_cases hlt : k < n1
            · have HL : Hid (k < P.vars.length) := by show k < P.vars.length; rw [← HN.out.1]; exact hlt
              obtain ⟨x, hx⟩ : ∃ x, x = P.vars.getD k [] := ⟨_, rfl⟩
              have HX : Hid (x = P.vars.getD k []) := hx
              obtain ⟨bx, hbx⟩ : ∃ b, b = S x := ⟨_, rfl⟩
              have HBX : Hid (bx = S x) := hbx
              clear hx hp hbx
              obtain ⟨wo, rfl⟩ : ∃ wo, wo = wr := ⟨_, rfl⟩
              go_wp2_with fail
              clear p0 p1 p2
              go_loopw [8] (fun t wr => ∃ j : Nat, j ≤ k ∧ t = .int .i64 j ∧ Below W.heap.size W wr ∧ (P.vars.take j).contains x = false) (fun t _ => (k - intOf t).toNat)
              case atStart => exact ⟨0, Nat.zero_le _, rfl, hB, rfl⟩
              case round =>
                clear hB
                obtain ⟨j, hj, rfl, hB, hall⟩ := hrel
                have HC : Hid ((P.vars.take j).contains x = false) := hall
                clear hall
                obtain ⟨hp, ⟨p0, p1, p2⟩, -, -⟩ := HKN.out wr hB
                by_cases hjl : j < k
                · obtain ⟨z, hz⟩ : ∃ z, z = P.vars.getD j [] := ⟨_, rfl⟩
                  have hjx : j < P.vars.length := by have := HL.out; omega
                  obtain ⟨_, _, hv, _, hst⟩ := hp.vars
                  obtain ⟨b, o, ha, e0⟩ := hst j hjx
                  obtain ⟨b', o', ha', e1⟩ := hst k HL.out
                  obtain rfl : a1 = some ⟨b, o, none⟩ := by rw [← ha]; exact (Value.slice.inj hv).1
                  obtain ⟨rfl, rfl⟩ : b' = b ∧ o' = o := by
                    have := Option.some.inj (ha'.symm.trans ha)
                    cases this
                    exact ⟨rfl, rfl⟩
                  rw [← hz] at e0
                  rw [← HX.out] at e1
                  clear hv hst ha ha'
                  obtain ⟨bz, hbz⟩ : ∃ b, b = S z := ⟨_, rfl⟩
                  rw [← hbz] at e0
                  rw [← HBX.out] at e1
                  by_cases he : z = x
                  · have HR : Hid (R = some (6, -1)) := by
                      show R = _
                      rw [HRR.out]; exact chk_dup HFU.out HV.out HVF.out (Or.inl (dup_of_eq P.vars [] j k hjl HL.out (by rw [← hz, ← HX.out]; exact he)))
                    have hbe : bz = bx := by rw [hbz, HBX.out, he]
                    subst hbe
                    clear hz hjx hbz he HC hp HA
                    go_wp2_with fail
                    go_quiet (fail)
                    go_wp2_with fail
                    refine (bare_ref 7 _).mono ?_
                    rintro e wz ⟨rfl, hBz⟩
                    obtain ⟨-, -, ⟨c0, c1, f0, f1⟩, hfin⟩ := HKN.out wz ((below_drewN hB _).trans (hBz.mono (below_drewN hB _).size))
                    go_wp2_with fail
                    refine bodyPost_ret (v := .agg #[.int .i64 7, .int .i64 (-1)]) (by simp [results, Tryz.results20, go_sem, c0, c1]) rfl ?_
                    exact ⟨by rw [HR.out]; rfl, hfin _ _⟩
                  · have HC2 : Hid ((P.vars.take (j + 1)).contains x = false) := contains_take_step P.vars [] x j hjx HC.out (by rw [← hz]; exact he)
                    have hbe : (bz.toList == bx.toList) = false := beq_eq_false_iff_ne.2 (fun q => he (by rw [hbz, HBX.out, S_toList, S_toList] at q; exact q))
                    clear hz hjx hbz he HC hp
                    go_wp2_with fail
                    go_quiet (fail)
                    go_wp2_with fail
                    go_roundw
                    case rel => exact ⟨j + 1, hjl, by go_num, below_drewN hB _, HC2.out⟩
                    case measure => simp [intOf]; omega
                · have HD : Hid (dup (P.vars.take (k + 1)) = false) := dup_take_step P.vars [] k HL.out HA.out (by
                    rw [← HX.out]
                    have := HC.out
                    rw [show j = k by omega] at this
                    exact this)
                  clear HC hp
                  go_wp2_with fail
                  go_roundw
                  case rel => exact ⟨k + 1, hlt, by go_num, hB, HD.out⟩
                  case measure => simp [intOf]; omega
            · have HDV : Hid (dup P.vars = false) := by
                show dup P.vars = false
                have := HA.out
                rw [show k = P.vars.length by rw [← HN.out.1]; omega, List.take_length] at this
                exact this
              obtain ⟨wa, rfl⟩ : ∃ wa, wa = wr := ⟨_, rfl⟩
              clear HA hp
              go_wp2_with fail
              clear p0 p1 p2 hlt hk
              go_loopw [9] (fun t wr => ∃ k : Nat, k ≤ n2 ∧ t = .int .i64 k ∧ Below W.heap.size W wr ∧ dup ((fnames P).take k) = false) (fun t _ => (n2 - intOf t).toNat)
              case atStart => exact ⟨0, Nat.zero_le _, rfl, hB, rfl⟩
              case round =>
                clear hB
                obtain ⟨k, hk, rfl, hB, hall⟩ := hrel
                have HA : Hid (dup ((fnames P).take k) = false) := hall
                clear hall
                obtain ⟨hp, ⟨p0, p1, p2⟩, -, -⟩ := HKN.out wr hB
                by_cases hlt : k < n2
                · have HL : Hid (k < (fnames P).length) := by show k < (fnames P).length; rw [fnames_len, ← HN.out.2.1]; exact hlt
                  obtain ⟨x, hx⟩ : ∃ x, x = (fnames P).getD k [] := ⟨_, rfl⟩
                  have HX : Hid (x = (fnames P).getD k []) := hx
                  obtain ⟨bx, hbx⟩ : ∃ b, b = S x := ⟨_, rfl⟩
                  have HBX : Hid (bx = S x) := hbx
                  clear hx hp hbx
                  obtain ⟨wo, rfl⟩ : ∃ wo, wo = wr := ⟨_, rfl⟩
                  go_wp2_with fail
                  clear p0 p1 p2
                  go_loopw [10] (fun t wr => ∃ j : Nat, j ≤ k ∧ t = .int .i64 j ∧ Below W.heap.size W wr ∧ ((fnames P).take j).contains x = false) (fun t _ => (k - intOf t).toNat)
                  case atStart => exact ⟨0, Nat.zero_le _, rfl, hB, rfl⟩
                  case round =>
                    clear hB
                    obtain ⟨j, hj, rfl, hB, hall⟩ := hrel
                    have HC : Hid (((fnames P).take j).contains x = false) := hall
                    clear hall
                    obtain ⟨hp, ⟨p0, p1, p2⟩, -, -⟩ := HKN.out wr hB
                    by_cases hjl : j < k
                    · obtain ⟨z, hz⟩ : ∃ z, z = (fnames P).getD j [] := ⟨_, rfl⟩
                      have hjx : j < (fnames P).length := by have := HL.out; omega
                      obtain ⟨_, _, hv, _, hst⟩ := hp.funs
                      obtain ⟨b, o, ha, ⟨_, e0, -, -, -⟩⟩ := hst j (by rw [← fnames_len]; exact hjx)
                      obtain ⟨b', o', ha', ⟨_, e1, -, -, -⟩⟩ := hst k (by rw [← fnames_len]; exact HL.out)
                      obtain rfl : a2 = some ⟨b, o, none⟩ := by rw [← ha]; exact (Value.slice.inj hv).1
                      obtain ⟨rfl, rfl⟩ : b' = b ∧ o' = o := by
                        have := Option.some.inj (ha'.symm.trans ha)
                        cases this
                        exact ⟨rfl, rfl⟩
                      rw [← fnames_at P j (by rw [← fnames_len]; exact hjx), ← hz] at e0
                      rw [← fnames_at P k (by rw [← fnames_len]; exact HL.out), ← HX.out] at e1
                      clear hv hst ha ha'
                      obtain ⟨bz, hbz⟩ : ∃ b, b = S z := ⟨_, rfl⟩
                      rw [← hbz] at e0
                      rw [← HBX.out] at e1
                      by_cases he : z = x
                      · have HR : Hid (R = some (6, -1)) := by
                          show R = _
                          rw [HRR.out]; exact chk_dup HFU.out HV.out HVF.out (Or.inr (dup_of_eq (fnames P) [] j k hjl HL.out (by rw [← hz, ← HX.out]; exact he)))
                        have hbe : bz = bx := by rw [hbz, HBX.out, he]
                        subst hbe
                        clear hz hjx hbz he HC hp HA
                        go_wp2_with fail
                        go_quiet (fail)
                        go_wp2_with fail
                        refine (bare_ref 7 _).mono ?_
                        rintro e wz ⟨rfl, hBz⟩
                        obtain ⟨-, -, ⟨c0, c1, f0, f1⟩, hfin⟩ := HKN.out wz ((below_drewN hB _).trans (hBz.mono (below_drewN hB _).size))
                        go_wp2_with fail
                        refine bodyPost_ret (v := .agg #[.int .i64 7, .int .i64 (-1)]) (by simp [results, Tryz.results20, go_sem, c0, c1]) rfl ?_
                        exact ⟨by rw [HR.out]; rfl, hfin _ _⟩
                      · have HC2 : Hid (((fnames P).take (j + 1)).contains x = false) := contains_take_step (fnames P) [] x j hjx HC.out (by rw [← hz]; exact he)
                        have hbe : (bz.toList == bx.toList) = false := beq_eq_false_iff_ne.2 (fun q => he (by rw [hbz, HBX.out, S_toList, S_toList] at q; exact q))
                        clear hz hjx hbz he HC hp
                        go_wp2_with fail
                        go_quiet (fail)
                        go_wp2_with fail
                        go_roundw
                        case rel => exact ⟨j + 1, hjl, by go_num, below_drewN hB _, HC2.out⟩
                        case measure => simp [intOf]; omega
                    · have HD : Hid (dup ((fnames P).take (k + 1)) = false) := dup_take_step (fnames P) [] k HL.out HA.out (by
                        rw [← HX.out]
                        have := HC.out
                        rw [show j = k by omega] at this
                        exact this)
                      clear HC hp
                      go_wp2_with fail
                      go_roundw
                      case rel => exact ⟨k + 1, hlt, by go_num, hB, HD.out⟩
                      case measure => simp [intOf]; omega
                · have HDF : Hid (dup (fnames P) = false) := by
                    show dup (fnames P) = false
                    have := HA.out
                    rw [show k = (fnames P).length by rw [fnames_len, ← HN.out.2.1]; omega, List.take_length] at this
                    exact this
                  obtain ⟨wa, rfl⟩ : ∃ wa, wa = wr := ⟨_, rfl⟩
                  clear HA hp
                  go_wp2_with fail
                  clear p0 p1 p2 hlt hk
                  have HNO : Hid (NamesOk P) := ⟨HFU.out, HV.out, HVF.out, HDV.out, HDF.out⟩
                  clear HFU HV HVF HDV HDF
                  go_loopw [11] (fun t wr => ∃ k : Nat, k ≤ n2 ∧ t = .int .i64 k ∧ Below W.heap.size W wr ∧ (P.funs.take k).all (fun f => decide (f.params.length ≤ 3)) = true) (fun t _ => (n2 - intOf t).toNat)
                  case atStart => exact ⟨0, Nat.zero_le _, rfl, hB, rfl⟩
                  case round =>
                    clear hB
                    obtain ⟨k, hk, rfl, hB, hall⟩ := hrel
                    have HA : Hid ((P.funs.take k).all (fun f => decide (f.params.length ≤ 3)) = true) := hall
                    clear hall
                    obtain ⟨hp, ⟨p0, p1, p2⟩, -, -⟩ := HKN.out wr hB
                    by_cases hlt : k < n2
                    · have hl : k < P.funs.length := by rw [← HN.out.2.1]; exact hlt
                      obtain ⟨_, _, hv, _, hst⟩ := hp.funs
                      obtain ⟨b, o, ha, e0⟩ := hst k hl
                      obtain rfl : a2 = some ⟨b, o, none⟩ := by rw [← ha]; exact (Value.slice.inj hv).1
                      obtain ⟨f, hf⟩ : ∃ f, f = P.funs.getD k default := ⟨_, rfl⟩
                      rw [← hf] at e0
                      obtain ⟨pv, r0, r1, hi, r2⟩ := e0
                      have HX : Hid ((P.funs.take (k + 1)).all (fun f => decide (f.params.length ≤ 3)) = decide (f.params.length ≤ 3)) := by
                        show (P.funs.take (k + 1)).all (fun f => decide (f.params.length ≤ 3)) = _
                        rw [all_take_snoc (fun f => decide (f.params.length ≤ 3)) P.funs default k hl, HA.out, ← hf]; rfl
                      have HF : Hid (decide (f.params.length ≤ 3) = false → R = some (8, -1)) := fun g => by
                        rw [HRR.out]; exact chk_args HNO.out (all_not_of_at (fun f => decide (f.params.length ≤ 3)) P.funs default k hl (by rw [← hf]; exact g))
                      obtain ⟨-, pa, pc, rfl, -⟩ := hi
                      obtain ⟨m, hm⟩ : ∃ m, m = f.params.length := ⟨_, rfl⟩
                      rw [← hm] at r1 HX HF
                      clear hv hst ha hl hm HA hp hf r0 r2
                      by_cases g : 3 < (m : Int)
                      · have HR : Hid (R = some (8, -1)) := HF.out (by simp; omega)
                        clear HX HF
                        go_wp2_with fail
                        refine (bare_ref 9 _).mono ?_
                        rintro e wz ⟨rfl, hBz⟩
                        obtain ⟨-, -, ⟨c0, c1, f0, f1⟩, hfin⟩ := HKN.out wz ((hB).trans (hBz.mono (hB).size))
                        go_wp2_with fail
                        refine bodyPost_ret (v := .agg #[.int .i64 9, .int .i64 (-1)]) (by simp [results, Tryz.results20, go_sem, c0, c1]) rfl ?_
                        exact ⟨by rw [HR.out]; rfl, hfin _ _⟩
                      · have HX2 : Hid ((P.funs.take (k + 1)).all (fun f => decide (f.params.length ≤ 3)) = true) := by
                          show (P.funs.take (k + 1)).all (fun f => decide (f.params.length ≤ 3)) = true
                          rw [HX.out]; simp; omega
                        clear HX HF
                        go_wp2_with fail
                        go_roundw
                        case rel => exact ⟨k + 1, hlt, by go_num, hB, HX2.out⟩
                        case measure => simp [intOf]; omega
                    · have HPL : Hid (P.funs.all (fun f => decide (f.params.length ≤ 3)) = true) := by
                        show P.funs.all (fun f => decide (f.params.length ≤ 3)) = true
                        have := HA.out
                        rw [show k = P.funs.length by rw [← HN.out.2.1]; omega, List.take_length] at this
                        exact this
                      obtain ⟨wa, rfl⟩ : ∃ wa, wa = wr := ⟨_, rfl⟩
                      clear HA hp
                      go_wp2_with fail
                      clear p0 p1 p2 hlt hk
                      go_loopw [12] (fun t wr => ∃ k : Nat, k ≤ n2 ∧ t = .int .i64 k ∧ Below W.heap.size W wr ∧ (P.funs.take k).all (fun f => f.params.all (varB P) && varB P f.ret) = true) (fun t _ => (n2 - intOf t).toNat)
                      case atStart => exact ⟨0, Nat.zero_le _, rfl, hB, rfl⟩
                      case round =>
                        clear hB
                        obtain ⟨k, hk, rfl, hB, hall⟩ := hrel
                        have HA : Hid ((P.funs.take k).all (fun f => f.params.all (varB P) && varB P f.ret) = true) := hall
                        clear hall
                        obtain ⟨hp, ⟨p0, p1, p2⟩, -, -⟩ := HKN.out wr hB
                        by_cases hlt : k < n2
                        · have hl : k < P.funs.length := by rw [← HN.out.2.1]; exact hlt
                          obtain ⟨_, _, hv, _, hst⟩ := hp.funs
                          obtain ⟨b, o, ha, e0⟩ := hst k hl
                          obtain rfl : a2 = some ⟨b, o, none⟩ := by rw [← ha]; exact (Value.slice.inj hv).1
                          obtain ⟨f, hf⟩ : ∃ f, f = P.funs.getD k default := ⟨_, rfl⟩
                          rw [← hf] at e0
                          obtain ⟨pv, r0, r1, hi, r2⟩ := e0
                          have hfl := HS.out.2.2.2.1 f (by rw [hf]; exact getD_mem _ _ _ hl)
                          obtain ⟨D1, hD1⟩ : ∃ D, D = f.params.all (varB P) := ⟨_, rfl⟩
                          obtain ⟨D2, hD2⟩ : ∃ D, D = varB P f.ret := ⟨_, rfl⟩
                          have HX : Hid ((P.funs.take (k + 1)).all (fun f => f.params.all (varB P) && varB P f.ret) = (D1 && D2)) := by
                            show (P.funs.take (k + 1)).all (fun f => f.params.all (varB P) && varB P f.ret) = _
                            rw [all_take_snoc (fun f => f.params.all (varB P) && varB P f.ret) P.funs default k hl, HA.out, ← hf, hD1, hD2]; rfl
                          have HF : Hid ((D1 && D2) = false → R = some (1, -1)) := fun g => by
                            rw [HRR.out]; exact chk_bound HNO.out HPL.out (all_not_of_at (fun f => f.params.all (varB P) && varB P f.ret) P.funs default k hl (by rw [← hf]; rw [hD1, hD2] at g; exact g))
                          have hi1 := hi.1
                          obtain ⟨-, pa, pc, rfl, -⟩ := hi
                          have KI : ∀ d os, Calls Tryz.prog 44 #[.agg #[.slice a1 n1 c1, .slice (some ⟨b, o, none⟩) n2 c2, .slice a3 n3 c3], .slice pa f.params.length pc] (Go.Sort.grow (redrawn wr d) os) fun e w'' => e = .returned (.bool D1) ∧ ∃ p : Regrown, w'' = Go.Sort.grow (redrawn wr p.d) p.os := fun d os => by
                            rw [hD1]
                            exact Calls.regrown_of (refAreVars_any P f.params _ _ _ _ _ (by omega) (hp.below (below_regrown wr d os)) (hi1.below (below_regrown wr d os)))
                          obtain ⟨m, hm⟩ : ∃ m, m = f.params.length := ⟨_, rfl⟩
                          obtain ⟨rt, hrt⟩ : ∃ r, r = f.ret := ⟨_, rfl⟩
                          rw [← hm] at r1
                          rw [← hm] at KI
                          rw [← hrt] at r2
                          have HKI : Hid (∀ d os, Calls Tryz.prog 44 #[.agg #[.slice a1 n1 c1, .slice (some ⟨b, o, none⟩) n2 c2, .slice a3 n3 c3], .slice pa m pc] (Go.Sort.grow (redrawn wr d) os) fun e w'' => e = .returned (.bool D1) ∧ ∃ p : Regrown, w'' = Go.Sort.grow (redrawn wr p.d) p.os) := KI
                          have HKJ : Hid (∀ wx, Below W.heap.size W wx → ∀ d os, Calls Tryz.prog 45 #[.agg #[.slice a1 n1 c1, .slice (some ⟨b, o, none⟩) n2 c2, .slice a3 n3 c3], .int .i64 rt] (Go.Sort.grow (redrawn wx d) os) fun e w'' => e = .returned (.bool D2) ∧ ∃ p : Regrown, w'' = Go.Sort.grow (redrawn wx p.d) p.os) := fun wx hb d os => by
                            rw [hD2, hrt]
                            exact Calls.regrown_of (refIsVar_any P f.ret _ _ _ _ ((HKN.out wx hb).1.below (below_regrown wx d os)))
                          have P0 := cell_regrown p0
                          have P1 := cell_regrown p1
                          have P2 := cell_regrown p2
                          have R1 := cell_regrown r1
                          clear hv hst ha hl hm hrt HA hp hf r0 hi1 hfl hD1 hD2 KI
                          go_upto_region 39 with fail
                          refine wp_region_quiet_below (by kernel_rfl) (by kernel_rfl) ?_
                          repeat (quiet_step (first | exact HKI.out _ _))
                          refine wpQuiet_nil ?_
                          intro _ hw'
                          obtain ⟨⟨dq, osq⟩, hw''⟩ := hw'
                          subst hw''
                          have hBr := below_regrown wr dq osq
                          obtain ⟨wq, hwq⟩ : ∃ wq, wq = Go.Sort.grow (redrawn wr dq) osq := ⟨_, rfl⟩
                          rw [← hwq] at hBr ⊢
                          have hBq := hB.trans (hBr.mono hB.size)
                          have q0 := cell_keep hBr p0
                          have q1 := cell_keep hBr p1
                          have q2 := cell_keep hBr p2
                          have r2q := cell_keep hBr r2
                          clear HKI P0 P1 P2 R1 p0 p1 p2 r1 r2 hwq hBr hB
                          have HKJ2 : Hid (∀ d os, Calls Tryz.prog 45 #[.agg #[.slice a1 n1 c1, .slice (some ⟨b, o, none⟩) n2 c2, .slice a3 n3 c3], .int .i64 rt] (Go.Sort.grow (redrawn wq d) os) fun e w'' => e = .returned (.bool D2) ∧ ∃ p : Regrown, w'' = Go.Sort.grow (redrawn wq p.d) p.os) := HKJ.out wq hBq
                          have P0 := cell_regrown q0
                          have P1 := cell_regrown q1
                          have P2 := cell_regrown q2
                          have R2 := cell_regrown r2q
                          clear HKJ
                          go_upto_region 40 with fail
                          refine wp_region_quiet_below (by kernel_rfl) (by kernel_rfl) ?_
                          repeat (quiet_step (first | exact HKJ2.out _ _))
                          refine wpQuiet_nil ?_
                          intro _ hw'
                          obtain ⟨⟨dr, osr⟩, hw''⟩ := hw'
                          subst hw''
                          have hB : Below W.heap.size W (Go.Sort.grow (redrawn wq dr) osr) := hBq.trans ((below_regrown wq dr osr).mono hBq.size)
                          obtain ⟨wv, hwv⟩ : ∃ wv, wv = Go.Sort.grow (redrawn wq dr) osr := ⟨_, rfl⟩
                          rw [← hwv] at hB ⊢
                          clear HKJ2 P0 P1 P2 R2 q0 q1 q2 r2q hwv hBq
                          cases D1 with
                          | false =>
                            have HR : Hid (R = some (1, -1)) := HF.out rfl
                            clear HX HF
                            go_wp2_with fail
                            refine (bare_ref 2 _).mono ?_
                            rintro e wz ⟨rfl, hBz⟩
                            obtain ⟨-, -, ⟨c0, c1, f0, f1⟩, hfin⟩ := HKN.out wz ((hB).trans (hBz.mono (hB).size))
                            go_wp2_with fail
                            refine bodyPost_ret (v := .agg #[.int .i64 2, .int .i64 (-1)]) (by simp [results, Tryz.results20, go_sem, c0, c1]) rfl ?_
                            exact ⟨by rw [HR.out]; rfl, hfin _ _⟩
                          | true =>
                          cases D2 with
                          | false =>
                            have HR : Hid (R = some (1, -1)) := HF.out rfl
                            clear HX HF
                            go_wp2_with fail
                            refine (bare_ref 2 _).mono ?_
                            rintro e wz ⟨rfl, hBz⟩
                            obtain ⟨-, -, ⟨c0, c1, f0, f1⟩, hfin⟩ := HKN.out wz ((hB).trans (hBz.mono (hB).size))
                            go_wp2_with fail
                            refine bodyPost_ret (v := .agg #[.int .i64 2, .int .i64 (-1)]) (by simp [results, Tryz.results20, go_sem, c0, c1]) rfl ?_
                            exact ⟨by rw [HR.out]; rfl, hfin _ _⟩
                          | true =>
                            clear HF
                            go_wp2_with fail
                            go_roundw
                            case rel => exact ⟨k + 1, hlt, by go_num, hB, HX.out⟩
                            case measure => simp [intOf]; omega
                        · have HPB : Hid (P.funs.all (fun f => f.params.all (varB P) && varB P f.ret) = true) := by
                            show P.funs.all (fun f => f.params.all (varB P) && varB P f.ret) = true
                            have := HA.out
                            rw [show k = P.funs.length by rw [← HN.out.2.1]; omega, List.take_length] at this
                            exact this
                          obtain ⟨wa, rfl⟩ : ∃ wa, wa = wr := ⟨_, rfl⟩
                          clear HA hp
                          go_wp2_with fail
                          clear p0 p1 p2 hlt hk
                          go_loopw [15] (fun t wr => ∃ k : Nat, k ≤ n2 ∧ t = .int .i64 k ∧ Below W.heap.size W wr ∧ (P.funs.take k).all (fun f => !dup f.params) = true) (fun t _ => (n2 - intOf t).toNat)
                          case atStart => exact ⟨0, Nat.zero_le _, rfl, hB, rfl⟩
                          case round =>
                            clear hB
                            obtain ⟨k, hk, rfl, hB, hall⟩ := hrel
                            have HA : Hid ((P.funs.take k).all (fun f => !dup f.params) = true) := hall
                            clear hall
                            obtain ⟨hp, ⟨p0, p1, p2⟩, -, -⟩ := HKN.out wr hB
                            by_cases hlt : k < n2
                            · have hl : k < P.funs.length := by rw [← HN.out.2.1]; exact hlt
                              obtain ⟨_, _, hv, _, hst⟩ := hp.funs
                              obtain ⟨b, o, ha, e0⟩ := hst k hl
                              obtain rfl : a2 = some ⟨b, o, none⟩ := by rw [← ha]; exact (Value.slice.inj hv).1
                              obtain ⟨f, hf⟩ : ∃ f, f = P.funs.getD k default := ⟨_, rfl⟩
                              rw [← hf] at e0
                              obtain ⟨pv, r0, r1, hi, r2⟩ := e0
                              have hfl := HS.out.2.2.2.1 f (by rw [hf]; exact getD_mem _ _ _ hl)
                              have HX : Hid ((P.funs.take (k + 1)).all (fun f => !dup f.params) = !dup f.params) := by
                                show (P.funs.take (k + 1)).all (fun f => !dup f.params) = _
                                rw [all_take_snoc (fun f => !dup f.params) P.funs default k hl, HA.out, ← hf]; rfl
                              have HF : Hid (dup f.params = true → R = some (6, -1)) := fun g => by
                                rw [HRR.out]; exact chk_dup2 HNO.out HPL.out HPB.out (all_not_of_at (fun f => !dup f.params) P.funs default k hl (by rw [← hf, g]; rfl))
                              have HI : Hid (IsInts wr pv f.params) := hi.1
                              obtain ⟨-, pa, pc, rfl, hcap⟩ := hi
                              obtain ⟨m, hm⟩ : ∃ m, m = f.params.length := ⟨_, rfl⟩
                              have HM : Hid (m = f.params.length) := hm
                              have hmb : m ≤ 100000 := by rw [hm]; exact hfl
                              rw [← hm] at r1 hcap HI
                              clear hv hst ha hl hm HA hp hf r0 r2 hfl
                              obtain ⟨wo, rfl⟩ : ∃ wo, wo = wr := ⟨_, rfl⟩
                              have HBO : Hid (Below W.heap.size W wo) := hB
                              have hBo := Below.refl wo.heap.size wo
                              go_wp2_with fail
                              clear p0 p1 p2 r1 hB
                              go_loopw [17] (fun t wr => ∃ j : Nat, j ≤ m ∧ t = .int .i64 j ∧ Below wo.heap.size wo wr ∧ dup (f.params.take j) = false) (fun t _ => (m - intOf t).toNat)
                              case atStart => exact ⟨0, Nat.zero_le _, rfl, hBo, rfl⟩
                              case round =>
                                clear hBo
                                obtain ⟨j, hj, rfl, hBo, hall⟩ := hrel
                                have HC : Hid (dup (f.params.take j) = false) := hall
                                clear hall
                                by_cases hjl : j < m
                                · have hjx : j < f.params.length := by rw [← HM.out]; exact hjl
                                  obtain ⟨x, hx⟩ : ∃ x, x = f.params.getD j 0 := ⟨_, rfl⟩
                                  obtain ⟨b', o', ha', e0⟩ := isInts_at (HI.out.below hBo) j hjx
                                  subst ha'
                                  rw [← hx] at e0
                                  obtain ⟨D, hD⟩ : ∃ D, D = (f.params.take j).contains x := ⟨_, rfl⟩
                                  have HD1 : Hid (D = true → R = some (6, -1)) := fun g => HF.out (dup_cons_take f.params (j + 1) (by
                                    have : f.params.take (j + 1) = f.params.take j ++ [f.params.getD j 0] := by rw [List.take_add_one]; simp [List.getD, hjx]
                                    rw [this, dup_snoc, ← hx, ← hD, g, Bool.or_true]))
                                  have HD2 : Hid (D = false → dup (f.params.take (j + 1)) = false) := fun g => dup_take_step f.params 0 j hjx HC.out (by rw [← hx, ← hD]; exact g)
                                  have HKI : Hid (∀ d os, Calls Tryz.prog 46 #[.slice (some ⟨b', o', none⟩) j pc, .int .i64 x] (Go.Sort.grow (redrawn wr d) os) fun e w'' => e = .returned (.bool D) ∧ ∃ p : Regrown, w'' = Go.Sort.grow (redrawn wr p.d) p.os) := fun d os => by
                                    rw [hD]
                                    refine (refHasQ_any (f.params.take j) x _ _ (by rw [List.length_take]; omega) (isInts_take ((HI.out.below hBo).below (below_regrown wr d os)) j hjx)).mono ?_
                                    rintro e w' ⟨rfl, rfl⟩
                                    exact ⟨rfl, ⟨d, os⟩, rfl⟩
                                  have E0 := cell_regrown e0
                                  have hj0 : (0 : Int) ≤ (j : Int) := by omega
                                  have hjc : (j : Int) ≤ (pc : Int) := by omega
                                  have hjm : (j : Int) < (m : Int) := by omega
                                  clear hjx hx hD HC e0
                                  go_upto_region 50 with fail
                                  refine wp_region_quiet_below (by kernel_rfl) (by kernel_rfl) ?_
                                  repeat (quiet_step (first | exact HKI.out _ _))
                                  refine wpQuiet_nil ?_
                                  intro _ hw'
                                  obtain ⟨⟨dq, osq⟩, hw''⟩ := hw'
                                  subst hw''
                                  have hBr := below_regrown wr dq osq
                                  obtain ⟨wq, hwq⟩ : ∃ wq, wq = Go.Sort.grow (redrawn wr dq) osq := ⟨_, rfl⟩
                                  rw [← hwq] at hBr ⊢
                                  have hBq := hBo.trans (hBr.mono hBo.size)
                                  have hB := HBO.out.trans (hBq.mono HBO.out.size)
                                  clear HKI E0 hwq hBr hj0 hjc hjm
                                  cases D with
                                  | true =>
                                    have HR : Hid (R = some (6, -1)) := HD1.out rfl
                                    clear HD1 HD2 HX HF
                                    go_wp2_with fail
                                    refine (bare_ref 7 _).mono ?_
                                    rintro e wz ⟨rfl, hBz⟩
                                    obtain ⟨-, -, ⟨c0, c1, f0, f1⟩, hfin⟩ := HKN.out wz ((hB).trans (hBz.mono (hB).size))
                                    go_wp2_with fail
                                    refine bodyPost_ret (v := .agg #[.int .i64 7, .int .i64 (-1)]) (by simp [results, Tryz.results20, go_sem, c0, c1]) rfl ?_
                                    exact ⟨by rw [HR.out]; rfl, hfin _ _⟩
                                  | false =>
                                    have HC2 : Hid (dup (f.params.take (j + 1)) = false) := HD2.out rfl
                                    clear HD1 HD2
                                    go_wp2_with fail
                                    go_roundw
                                    case rel => exact ⟨j + 1, hjl, by go_num, hBq, HC2.out⟩
                                    case measure => simp [intOf]; omega
                                · have HX2 : Hid ((P.funs.take (k + 1)).all (fun f => !dup f.params) = true) := by
                                    show (P.funs.take (k + 1)).all (fun f => !dup f.params) = true
                                    have := HC.out
                                    rw [show j = f.params.length by rw [← HM.out]; omega, List.take_length] at this
                                    rw [HX.out, this]; rfl
                                  have hB := HBO.out.trans (hBo.mono HBO.out.size)
                                  clear HC
                                  go_wp2_with fail
                                  go_roundw
                                  case rel => exact ⟨k + 1, hlt, by go_num, hB, HX2.out⟩
                                  case measure => simp [intOf]; omega
                            · have HPD : Hid (P.funs.all (fun f => !dup f.params) = true) := by
                                show P.funs.all (fun f => !dup f.params) = true
                                have := HA.out
                                rw [show k = P.funs.length by rw [← HN.out.2.1]; omega, List.take_length] at this
                                exact this
                              obtain ⟨wa, rfl⟩ : ∃ wa, wa = wr := ⟨_, rfl⟩
                              clear HA hp
                              go_wp2_with fail
                              clear p0 p1 p2 hlt hk
                              have HRS : Hid (R = stmtsE P 0 P.stmts) := by show R = _; rw [HRR.out]; exact chk_stmts HNO.out HPL.out HPB.out HPD.out
                              clear HNO HPL HPB HPD
                              go_loopw [18] (fun t wr => ∃ k : Nat, k ≤ n3 ∧ t = .int .i64 k ∧ Below W.heap.size W wr ∧ ∀ j, j < k → stmtE P (P.stmts.getD j default) = none) (fun t _ => (n3 - intOf t).toNat)
                              case atStart => exact ⟨0, Nat.zero_le _, rfl, hB, fun j hj => absurd hj (Nat.not_lt_zero _)⟩
                              case round =>
                                clear hB
                                obtain ⟨k, hk, rfl, hB, hall⟩ := hrel
                                have HA : Hid (∀ j, j < k → stmtE P (P.stmts.getD j default) = none) := hall
                                clear hall
                                obtain ⟨hp, ⟨p0, p1, p2⟩, -, -⟩ := HKN.out wr hB
                                by_cases hlt : k < n3
                                · have hl : k < P.stmts.length := by rw [← HN.out.2.2]; exact hlt
                                  obtain ⟨_, _, hv, _, hst⟩ := hp.stmts
                                  obtain ⟨b, o, ha, e0⟩ := hst k hl
                                  obtain rfl : a3 = some ⟨b, o, none⟩ := by rw [← ha]; exact (Value.slice.inj hv).1
                                  obtain ⟨f, hf⟩ : ∃ f, f = P.stmts.getD k default := ⟨_, rfl⟩
                                  rw [← hf] at e0
                                  obtain ⟨pv, r0, r1, r2, r3, hi⟩ := e0
                                  have hfl := HS.out.2.2.2.2 f (by rw [hf]; exact getD_mem _ _ _ hl)
                                  obtain ⟨E, hE⟩ : ∃ E, E = stmtE P f := ⟨_, rfl⟩
                                  obtain ⟨c, hc⟩ : ∃ c, c = codeO E := ⟨_, rfl⟩
                                  have hi1 := hi.1
                                  obtain ⟨-, pa, pc, rfl, -⟩ := hi
                                  have KI : ∀ d os, Calls Tryz.prog 47 #[.agg #[.slice a1 n1 c1, .slice a2 n2 c2, .slice (some ⟨b, o, none⟩) n3 c3], .agg #[.string (S f.kind), .int .i64 f.x, .int .i64 f.y, .slice pa f.args.length pc]] (Go.Sort.grow (redrawn wr d) os) fun e w'' => e = .returned (.int .i64 c) ∧ ∃ p : Regrown, w'' = Go.Sort.grow (redrawn wr p.d) p.os := fun d os => by
                                    rw [hc, hE]
                                    exact Calls.regrown_of (refStmtErr_any P f _ _ _ _ _ (by omega) (hp.below (below_regrown wr d os)) (hi1.below (below_regrown wr d os)))
                                  have HX : Hid (E = none → ∀ j, j < k + 1 → stmtE P (P.stmts.getD j default) = none) := fun g j hj => by
                                    rcases Nat.lt_succ_iff_lt_or_eq.1 hj with q | q
                                    · exact HA.out j q
                                    · rw [q, ← hf, ← hE]; exact g
                                  have HF : Hid (∀ i, E = some i → R = some (i, (k : Int))) := fun i g => by
                                    rw [HRS.out, stmtsE_at P P.stmts 0 k i hl HA.out (by rw [← hf, ← hE]; exact g), Nat.zero_add]
                                  obtain ⟨m, hm⟩ : ∃ m, m = f.args.length := ⟨_, rfl⟩
                                  obtain ⟨bk, hbk⟩ : ∃ r, r = S f.kind := ⟨_, rfl⟩
                                  obtain ⟨fx, hfx⟩ : ∃ r, r = f.x := ⟨_, rfl⟩
                                  obtain ⟨fy, hfy⟩ : ∃ r, r = f.y := ⟨_, rfl⟩
                                  rw [← hm] at r3 KI
                                  rw [← hbk] at r0 KI
                                  rw [← hfx] at r1 KI
                                  rw [← hfy] at r2 KI
                                  have HKI : Hid (∀ d os, Calls Tryz.prog 47 #[.agg #[.slice a1 n1 c1, .slice a2 n2 c2, .slice (some ⟨b, o, none⟩) n3 c3], .agg #[.string bk, .int .i64 fx, .int .i64 fy, .slice pa m pc]] (Go.Sort.grow (redrawn wr d) os) fun e w'' => e = .returned (.int .i64 c) ∧ ∃ p : Regrown, w'' = Go.Sort.grow (redrawn wr p.d) p.os) := KI
                                  have P0 := cell_regrown p0
                                  have P1 := cell_regrown p1
                                  have P2 := cell_regrown p2
                                  have R0 := cell_regrown r0
                                  have R1 := cell_regrown r1
                                  have R2 := cell_regrown r2
                                  have R3 := cell_regrown r3
                                  have HCE : Hid (c = codeO E) := hc
                                  clear hv hst ha hl hm hbk hfx hfy HA hp hf hi1 hfl hE KI hc
                                  go_upto_region 55 with fail
                                  refine wp_region_quiet_below (by kernel_rfl) (by kernel_rfl) ?_
                                  repeat (quiet_step (first | exact HKI.out _ _))
                                  refine wpQuiet_nil ?_
                                  intro _ hw'
                                  obtain ⟨⟨dq, osq⟩, hw''⟩ := hw'
                                  subst hw''
                                  have hBq : Below W.heap.size W (Go.Sort.grow (redrawn wr dq) osq) := hB.trans ((below_regrown wr dq osq).mono hB.size)
                                  obtain ⟨wq, hwq⟩ : ∃ wq, wq = Go.Sort.grow (redrawn wr dq) osq := ⟨_, rfl⟩
                                  rw [← hwq] at hBq ⊢
                                  clear HKI P0 P1 P2 R0 R1 R2 R3 p0 p1 p2 r0 r1 r2 r3 hwq hB
                                  cases E with
                                  | none =>
                                    have hc0 : c = 0 := HCE.out
                                    subst hc0
                                    clear HCE
                                    have HX2 : Hid (∀ j, j < k + 1 → stmtE P (P.stmts.getD j default) = none) := HX.out rfl
                                    clear HX HF
                                    go_wp2_with fail
                                    go_roundw
                                    case rel => exact ⟨k + 1, hlt, by go_num, hBq, HX2.out⟩
                                    case measure => simp [intOf]; omega
                                  | some i =>
                                    have HR : Hid (R = some (i, (k : Int))) := HF.out i rfl
                                    have HCC : Hid (c = (i : Int) + 1) := HCE.out
                                    have hc1 : 0 < c := by rw [HCC.out]; omega
                                    clear HX HF HCE
                                    obtain ⟨-, -, ⟨c0, c1', f0, f1⟩, hfin⟩ := HKN.out wq hBq
                                    go_wp2_with fail
                                    refine bodyPost_ret (v := .agg #[.int .i64 c, .int .i64 (k : Int)]) (by simp [results, Tryz.results20, go_sem, c0, c1']) rfl ?_
                                    exact ⟨by rw [HR.out, HCC.out]; rfl, hfin _ _⟩
                                · have HR : Hid (R = none) := by
                                    show R = none
                                    rw [HRS.out]
                                    exact stmtsE_all P P.stmts 0 (fun j hj => HA.out j (by rw [← HN.out.2.2] at hj; omega))
                                  clear HA hp
                                  go_wp2_with fail
                                  refine (fine_ref _).mono ?_
                                  rintro e wz ⟨rfl, hBz⟩
                                  obtain ⟨-, -, ⟨c0, c1', f0, f1⟩, hfin⟩ := HKN.out wz (hB.trans (hBz.mono hB.size))
                                  go_wp2_with fail
                                  refine bodyPost_ret (v := .agg #[.int .i64 0, .int .i64 (-1)]) (by simp [results, Tryz.results20, go_sem, c0, c1']) rfl ?_
                                  exact ⟨by rw [HR.out]; rfl, hfin _ _⟩
end Go.Proofs.YtglonlpfnllocaaGreatDoor

/-
  The numbers of errors: plain.
-/
namespace Go.Proofs.YtglonlpfnllocaaGreatDoor
open Go.RowKit Go.Extern.Stop Go.Stop Go.Extern

theorem funsE_lt {P : ProgD} {i : Nat} (h : funsE P = some i) : i < 11 := by
  unfold funsE at h
  split at h
  · cases h; decide
  · split at h
    · cases h; decide
    · split at h
      · cases h; decide
      · cases h
theorem namesE_lt {vs fs : List Bs} {i : Nat} (h : namesE vs fs = some i) : i < 11 := by
  unfold namesE at h
  split at h
  · cases h; decide
  · split at h
    · cases h; decide
    · cases h
theorem stmtE_lt {P : ProgD} {s : StmtD} {i : Nat} (h : stmtE P s = some i) : i < 11 := by
  unfold stmtE at h
  repeat' split at h
  all_goals cases h
  all_goals decide
theorem stmtsE_lt {P : ProgD} (l : List StmtD) (k : Nat) {x : Nat × Int} (h : stmtsE P k l = some x) : x.1 < 11 := by
  induction l generalizing k with
  | nil => cases h
  | cons s r ih =>
    unfold stmtsE at h
    cases he : stmtE P s with
    | none => rw [he] at h; exact ih (k + 1) h
    | some e => rw [he] at h; cases h; exact stmtE_lt he
theorem checkE_lt {P : ProgD} {x : Nat × Int} (h : checkE P = some x) : x.1 < 11 := by
  unfold checkE at h
  split at h
  · cases h; decide
  · cases hn : namesE P.vars (fnames P) with
    | some e => rw [hn] at h; cases h; exact namesE_lt hn
    | none =>
      rw [hn] at h
      cases hf : funsE P with
      | some e => rw [hf] at h; cases h; exact funsE_lt hf
      | none => rw [hf] at h; exact stmtsE_lt _ _ h
end Go.Proofs.YtglonlpfnllocaaGreatDoor

/-
  faulted of the second package of statements: an error's number and place, by a contract.
-/
namespace Go.Proofs.YtglonlpfnllocaaGreatDoor
open Go.RowKit Go.Extern.Stop Go.Stop Go.Extern

set_option maxHeartbeats 2000000 in
theorem faulted2_any (a : Nat → Addr) (e : ErrD) (v : Value) (c n : Int) (w : World) (hE : Errs w a) (hv : ErrV w a e v) (hl : ∀ x, e = some x → x.1 < 11) (hc : c = codeE e) (hn : n = placeE e) :
    Calls Tryz.prog 21 #[v, .agg #[.int .i64 c, .int .i64 n]] w fun r w' => r = .returned (.bool true) ∧ Below w.heap.size w w' := by
  have HE : Hid (Errs w a) := hE
  rcases hv with ⟨rfl, rfl⟩ | ⟨i, rfl, rfl⟩ | ⟨i, m, b, o, rfl, hm0, rfl, h1, h2⟩
  · subst hc hn
    clear hE hl
    unfold codeE placeE
    go_enter Tryz.func21, Tryz.ntmps21
    go_wp2_with (go_at_call 41; refine (code_nil _).mono ?_; rintro e w' ⟨rfl, rfl⟩)
    go_ret
    exact ⟨rfl, below1 _ _⟩
  · have hi : i < 11 := hl (i, -1) rfl
    have hc' : c = (i : Int) + 1 := hc
    have hn' : n = -1 := hn
    obtain ⟨W, hW⟩ : ∃ W, W = w.alloc (.cells #[.int .i64 c, .int .i64 n] 52) := ⟨_, rfl⟩
    have hBW : Below w.heap.size w W := by rw [hW]; exact below1 _ _
    have HC : Hid (W.cell? ⟨w.heap.size, 0, none⟩ = some (.int .i64 c) ∧ W.cell? ⟨w.heap.size, 1, none⟩ = some (.int .i64 n)) := by
      constructor <;> rw [hW] <;> simp
    have K : Hid (Calls Tryz.prog 41 #[.iface 221 (.pointer (some (a i)))] W fun e w' => e = .returned (.tuple #[.int .i64 c, .int .i64 n]) ∧ Below W.heap.size W w') := by
      rw [hc', hn']; exact code_err a i W hi (HE.out.below hBW)
    have hcp : ¬ c = 0 := by omega
    rw [hW] at K
    clear hc hn hc' hn' hl hE
    go_enter Tryz.func21, Tryz.ntmps21
    go_wp2_with fail
    refine K.out.mono ?_
    rintro e w' ⟨rfl, hb⟩
    rw [← hW] at hb
    have k0 := cell_keep hb HC.out.1
    have k1 := cell_keep hb HC.out.2
    have hcb : (c == 0) = false := beq_eq_false_iff_ne.2 hcp
    clear K hW
    go_wp2_with fail
    go_ret
    exact ⟨rfl, hBW.trans (hb.mono hBW.size)⟩
  · have hi : i < 11 := hl (i, m) rfl
    have hc' : c = (i : Int) + 1 := hc
    have hn' : n = m := hn
    obtain ⟨W, hW⟩ : ∃ W, W = w.alloc (.cells #[.int .i64 c, .int .i64 n] 52) := ⟨_, rfl⟩
    have hBW : Below w.heap.size w W := by rw [hW]; exact below1 _ _
    have HC : Hid (W.cell? ⟨w.heap.size, 0, none⟩ = some (.int .i64 c) ∧ W.cell? ⟨w.heap.size, 1, none⟩ = some (.int .i64 n)) := by
      constructor <;> rw [hW] <;> simp
    have K : Hid (Calls Tryz.prog 41 #[.iface 81 (.pointer (some ⟨b, o, none⟩))] W fun e w' => e = .returned (.tuple #[.int .i64 c, .int .i64 n]) ∧ Below W.heap.size W w') := by
      rw [hc', hn']; exact code_fault a i b o m W hi (cell_keep hBW h1) (cell_keep hBW h2) (HE.out.below hBW)
    have hcp : ¬ c = 0 := by omega
    rw [hW] at K
    clear hc hn hc' hn' hl hE h1 h2 hm0
    go_enter Tryz.func21, Tryz.ntmps21
    go_wp2_with fail
    refine K.out.mono ?_
    rintro e w' ⟨rfl, hb⟩
    rw [← hW] at hb
    have k0 := cell_keep hb HC.out.1
    have k1 := cell_keep hb HC.out.2
    have hcb : (c == 0) = false := beq_eq_false_iff_ne.2 hcp
    clear K hW
    go_wp2_with fail
    go_ret
    exact ⟨rfl, hBW.trans (hb.mono hBW.size)⟩
end Go.Proofs.YtglonlpfnllocaaGreatDoor

/-
  A []string, a []api.Fun, a []api.Stmt and an api.Program that read as plain data; isLetter, isDigit, isName, by contracts.
-/
import Derived.Test.YtglonlpfnllocaaGreatDoorBase
import Derived.Test.YtglonlpfnllocaaGreatDoorXAM
namespace Go.Proofs.YtglonlpfnllocaaGreatDoor
open Go.RowKit Go.Extern.Stop Go.Stop Go.Extern

def S (l : Bs) : ByteArray := ⟨l.toArray⟩
theorem S_data (l : Bs) : (S l).data.toList = l := by simp [S]
theorem S_toList (l : Bs) : (S l).toList = l := by rw [ByteArray.toList_eq]; exact S_data l
theorem S_size (l : Bs) : (S l).size = l.length := by rw [Lib.size_eq, S_data]
theorem S_of (s : ByteArray) : S s.data.toList = s := Lib.mk_data s
theorem S_inj {a b : Bs} (h : S a = S b) : a = b := by rw [← S_data a, h, S_data]
theorem S_append (a b : Bs) : S a ++ S b = S (a ++ b) := by
  apply ByteArray.ext
  simp [S]

/-- The value v is a []string that reads as ss in the world w. -/
def IsStrs (w : World) (v : Value) (ss : List Bs) : Prop :=
  ∃ a c, v = .slice a ss.length c ∧ ss.length ≤ c ∧ ∀ j, j < ss.length → ∃ b o, a = some ⟨b, o, none⟩ ∧ w.cell? ⟨b, o + j, none⟩ = some (.string (S (ss.getD j [])))
/-- A []int that reads as zs, whose room is no less than its length. -/
def IsCap (w : World) (v : Value) (zs : List Int) : Prop := IsInts w v zs ∧ ∃ a c, v = .slice a zs.length c ∧ zs.length ≤ c
theorem IsCap.below {w w' : World} {v : Value} {zs : List Int} (h : IsCap w v zs) (hb : Below w.heap.size w w') : IsCap w' v zs := ⟨h.1.below hb, h.2⟩
/-- The three cells of an api.Fun. -/
def FunAt (w : World) (b o : Nat) (f : FunD) : Prop :=
  ∃ pv, w.cell? ⟨b, o, none⟩ = some (.string (S f.name)) ∧ w.cell? ⟨b, o + 1, none⟩ = some pv ∧ IsCap w pv f.params ∧ w.cell? ⟨b, o + 2, none⟩ = some (.int .i64 f.ret)
def IsFuns (w : World) (v : Value) (fs : List FunD) : Prop :=
  ∃ a c, v = .slice a fs.length c ∧ fs.length ≤ c ∧ ∀ j, j < fs.length → ∃ b o, a = some ⟨b, o, none⟩ ∧ FunAt w b (o + j * 3) (fs.getD j default)
/-- The four cells of an api.Stmt. -/
def StmtAt (w : World) (b o : Nat) (s : StmtD) : Prop :=
  ∃ pv, w.cell? ⟨b, o, none⟩ = some (.string (S s.kind)) ∧ w.cell? ⟨b, o + 1, none⟩ = some (.int .i64 s.x) ∧ w.cell? ⟨b, o + 2, none⟩ = some (.int .i64 s.y) ∧ w.cell? ⟨b, o + 3, none⟩ = some pv ∧ IsCap w pv s.args
def IsStmts (w : World) (v : Value) (ss : List StmtD) : Prop :=
  ∃ a c, v = .slice a ss.length c ∧ ss.length ≤ c ∧ ∀ j, j < ss.length → ∃ b o, a = some ⟨b, o, none⟩ ∧ StmtAt w b (o + j * 4) (ss.getD j default)
structure IsProg (w : World) (v1 v2 v3 : Value) (P : ProgD) : Prop where
  vars : IsStrs w v1 P.vars
  funs : IsFuns w v2 P.funs
  stmts : IsStmts w v3 P.stmts

theorem IsStrs.below {w w' : World} {v : Value} {ss : List Bs} (h : IsStrs w v ss) (hb : Below w.heap.size w w') : IsStrs w' v ss := by
  obtain ⟨a, c, rfl, hcp, hc⟩ := h
  refine ⟨a, c, rfl, hcp, fun j hj => ?_⟩
  obtain ⟨b, o, ha, e⟩ := hc j hj
  exact ⟨b, o, ha, cell_keep hb e⟩
theorem FunAt.below {w w' : World} {b o : Nat} {f : FunD} (h : FunAt w b o f) (hb : Below w.heap.size w w') : FunAt w' b o f := by
  obtain ⟨pv, h1, h2, h3, h4⟩ := h
  exact ⟨pv, cell_keep hb h1, cell_keep hb h2, h3.below hb, cell_keep hb h4⟩
theorem StmtAt.below {w w' : World} {b o : Nat} {s : StmtD} (h : StmtAt w b o s) (hb : Below w.heap.size w w') : StmtAt w' b o s := by
  obtain ⟨pv, h1, h2, h3, h4, h5⟩ := h
  exact ⟨pv, cell_keep hb h1, cell_keep hb h2, cell_keep hb h3, cell_keep hb h4, h5.below hb⟩
theorem IsFuns.below {w w' : World} {v : Value} {ss : List FunD} (h : IsFuns w v ss) (hb : Below w.heap.size w w') : IsFuns w' v ss := by
  obtain ⟨a, c, rfl, hcp, hc⟩ := h
  refine ⟨a, c, rfl, hcp, fun j hj => ?_⟩
  obtain ⟨b, o, ha, e⟩ := hc j hj
  exact ⟨b, o, ha, e.below hb⟩
theorem IsStmts.below {w w' : World} {v : Value} {ss : List StmtD} (h : IsStmts w v ss) (hb : Below w.heap.size w w') : IsStmts w' v ss := by
  obtain ⟨a, c, rfl, hcp, hc⟩ := h
  refine ⟨a, c, rfl, hcp, fun j hj => ?_⟩
  obtain ⟨b, o, ha, e⟩ := hc j hj
  exact ⟨b, o, ha, e.below hb⟩
theorem IsProg.below {w w' : World} {v1 v2 v3 : Value} {P : ProgD} (h : IsProg w v1 v2 v3 P) (hb : Below w.heap.size w w') : IsProg w' v1 v2 v3 P := ⟨h.vars.below hb, h.funs.below hb, h.stmts.below hb⟩
theorem isInts_form {w : World} {v : Value} {zs : List Int} (h : IsInts w v zs) : ∃ a c, v = .slice a zs.length c := by
  rcases h with ⟨rfl, a, c, rfl⟩ | ⟨_, b, o, c, rfl, _⟩
  · exact ⟨a, c, rfl⟩
  · exact ⟨_, c, rfl⟩
theorem isInts_at {w : World} {a : Option Addr} {n c : Nat} {zs : List Int} (h : IsInts w (.slice a n c) zs) (j : Nat) (hj : j < zs.length) : ∃ b o, a = some ⟨b, o, none⟩ ∧ w.cell? ⟨b, o + j, none⟩ = some (.int .i64 (zs.getD j 0)) := by
  rcases h with ⟨rfl, a, c, hv⟩ | ⟨_, b, o, c, hv, hc⟩
  · exact absurd hj (Nat.not_lt_zero _)
  · exact ⟨b, o, (Value.slice.inj hv).1, hc j hj⟩

/-- isLetter and isDigit. -/
theorem isLetter_any (c : UInt8) (w : World) : Calls Tryz.prog 96 #[.int .u8 (c.toNat : Int)] w fun e w' => e = .returned (.bool (isLet c)) ∧ w' = w := by
  by_cases h1 : (97 : Int) ≤ (c.toNat : Int)
  · by_cases h2 : (c.toNat : Int) ≤ 122
    · have e : isLet c = true := by unfold isLet; simp; omega
      rw [e]; clear e
      go_enter Tryz.func96, Tryz.ntmps96
      go_wp2
      go_ret
      exact ⟨rfl, rfl⟩
    · have e : isLet c = false := by unfold isLet; simp; omega
      rw [e]; clear e
      go_enter Tryz.func96, Tryz.ntmps96
      go_wp2
      go_ret
      exact ⟨rfl, rfl⟩
  · have e : isLet c = false := by unfold isLet; simp; omega
    rw [e]; clear e
    go_enter Tryz.func96, Tryz.ntmps96
    go_wp2
    go_ret
    exact ⟨rfl, rfl⟩
theorem isDigit_any (c : UInt8) (w : World) : Calls Tryz.prog 97 #[.int .u8 (c.toNat : Int)] w fun e w' => e = .returned (.bool (isDig c)) ∧ w' = w := by
  by_cases h1 : (48 : Int) ≤ (c.toNat : Int)
  · by_cases h2 : (c.toNat : Int) ≤ 57
    · have e : isDig c = true := by unfold isDig; simp; omega
      rw [e]; clear e
      go_enter Tryz.func97, Tryz.ntmps97
      go_wp2
      go_ret
      exact ⟨rfl, rfl⟩
    · have e : isDig c = false := by unfold isDig; simp; omega
      rw [e]; clear e
      go_enter Tryz.func97, Tryz.ntmps97
      go_wp2
      go_ret
      exact ⟨rfl, rfl⟩
  · have e : isDig c = false := by unfold isDig; simp; omega
    rw [e]; clear e
    go_enter Tryz.func97, Tryz.ntmps97
    go_wp2
    go_ret
    exact ⟨rfl, rfl⟩
end Go.Proofs.YtglonlpfnllocaaGreatDoor

/-
  Package prog: isName, below, all, by contracts.
-/
namespace Go.Proofs.YtglonlpfnllocaaGreatDoor
open Go.RowKit Go.Extern.Stop Go.Stop Go.Extern

theorem S_idx (l : Bs) (k : Nat) (hk : k < (S l).size) : (S l)[k] = l.getD k 0 := by
  have hl : k < l.length := by rw [← S_size]; exact hk
  show l.toArray[k] = _
  simp [List.getD, hl]
theorem eqS (a b : Bs) : ((S a).toList == (S b).toList) = (a == b) := by rw [S_toList, S_toList]
theorem all_take_succ {α : Type} (p : α → Bool) (l : List α) (d : α) (k : Nat) (h : k < l.length) : (l.take (k + 1)).all p = ((l.take k).all p && p (l.getD k d)) := by
  rw [List.take_succ_eq_append_getElem h, List.all_append]
  simp [List.getD, h]
theorem all_not_of_at {α : Type} (p : α → Bool) (l : List α) (d : α) (k : Nat) (h : k < l.length) (hp : p (l.getD k d) = false) : l.all p = false := by
  cases e : l.all p with
  | false => rfl
  | true => rw [all_at e k d h] at hp; cases hp

def nmTail (l : Bs) : Bool := !(l == kVar) && !(l == kFn) && !(l == kNew) && !(l == kCall)

theorem isNm_eq (l : Bs) : isNm l = (!l.isEmpty && decide (l.length ≤ 8) && isLet (l.headD 0) && l.all nmC && nmTail l) := by
  unfold isNm nmTail
  simp only [Bool.and_assoc]
  rfl
theorem headD_data (s : ByteArray) (h : 0 < s.size) : s.data.toList.headD 0 = s[0] := by
  have hl : 0 < s.data.toList.length := by rw [← Lib.size_eq]; exact h
  rw [List.headD_eq_head?_getD, List.head?_eq_getElem?, List.getElem?_eq_getElem hl]
  rfl
theorem isEmpty_iff (s : ByteArray) : s.toList.isEmpty = decide (s.size = 0) := by
  rw [Lib.toList_data, Lib.size_eq]
  cases s.data.toList <;> simp
theorem getD_data (s : ByteArray) (k : Nat) (h : k < s.size) : s.data.toList.getD k 0 = s[k] := by
  have hl : k < s.data.toList.length := by rw [← Lib.size_eq]; exact h
  simp only [List.getD, List.getElem?_eq_getElem hl, Option.getD_some]
  rfl

set_option maxHeartbeats 4000000 in
theorem isName_s (s : ByteArray) (w : World) : Calls Tryz.prog 69 #[.string s] w fun e w' => e = .returned (.bool (isNm s.data.toList)) ∧ w' = w := by
  have he := isEmpty_iff s
  have hq := isNm_eq s.data.toList
  by_cases h0 : s.size = 0
  · have e0 : s.toList.isEmpty = true := by rw [he]; simp [h0]
    have hr : isNm s.data.toList = false := by
      rw [hq]
      have : s.data.toList = [] := List.eq_nil_of_length_eq_zero (by rw [← Lib.size_eq]; exact h0)
      rw [this]; rfl
    rw [hr]
    clear he hq h0 hr
    go_enter Tryz.func69, Tryz.ntmps69
    go_wp2
    go_ret
    exact ⟨rfl, rfl⟩
  have e0 : s.toList.isEmpty = false := by rw [he]; simp [h0]
  have hpos : 0 < s.size := by omega
  clear he
  by_cases h8 : 8 < (s.size : Int)
  · have hr : isNm s.data.toList = false := by
      have : decide (s.data.toList.length ≤ 8) = false := decide_eq_false (by rw [← Lib.size_eq]; omega)
      rw [hq, this]; simp
    rw [hr]
    clear hq hr h0
    go_enter Tryz.func69, Tryz.ntmps69
    go_wp2
    go_ret
    exact ⟨rfl, rfl⟩
  have hd0 := headD_data s hpos
  cases hl : isLet s[0] with
  | false =>
    have hr : isNm s.data.toList = false := by rw [hq, hd0, hl]; simp
    rw [hr]
    have hc := isLetter_any s[0] w
    rw [hl] at hc
    have HC : Hid (Calls Tryz.prog 96 #[.int .u8 (s[0].toNat : Int)] w fun e w' => e = .returned (.bool false) ∧ w' = w) := hc
    clear hq hr h0 hd0 hl hc
    go_enter Tryz.func69, Tryz.ntmps69
    go_wp2_with fail
    refine HC.out.mono ?_
    rintro e w1 ⟨rfl, hw⟩
    obtain rfl := hw.symm
    go_wp2_with fail
    go_ret
    exact ⟨rfl, rfl⟩
  | true =>
    have HQ : Hid (isNm s.data.toList = (s.data.toList.all nmC && nmTail s.data.toList)) := by
      show isNm s.data.toList = _
      have h1 : s.data.toList.isEmpty = false := by rw [← Lib.toList_data]; exact e0
      have h2 : decide (s.data.toList.length ≤ 8) = true := decide_eq_true (by rw [← Lib.size_eq]; omega)
      rw [hq, hd0, hl, h1, h2]; simp
    obtain ⟨B, hB⟩ : ∃ B, B = isNm s.data.toList := ⟨_, rfl⟩
    rw [← hB] at HQ ⊢
    have hc := isLetter_any s[0] w
    rw [hl] at hc
    have HC : Hid (Calls Tryz.prog 96 #[.int .u8 (s[0].toNat : Int)] w fun e w' => e = .returned (.bool true) ∧ w' = w) := hc
    clear hq h0 hd0 hl hc hB
    go_enter Tryz.func69, Tryz.ntmps69
    go_wp2_with fail
    refine HC.out.mono ?_
    rintro e w1 ⟨rfl, hw⟩
    obtain rfl := hw.symm
    clear HC
    go_wp2_with fail
    go_loopw [19] (fun t wr => ∃ k : Nat, k ≤ s.size ∧ t = .int .i64 k ∧ wr = w ∧ (s.data.toList.take k).all nmC = true) (fun t _ => s.size - (intOf t).toNat)
    case atStart => exact ⟨0, Nat.zero_le _, rfl, rfl, rfl⟩
    case round =>
      obtain ⟨k, hk, rfl, hwr, hall⟩ := hrel
      obtain rfl := hwr.symm
      have HA : Hid ((s.data.toList.take k).all nmC = true) := hall
      clear hall
      by_cases hlt : k < s.size
      · have hg := getD_data s k hlt
        have H1 := isLetter_any s[k] w
        have H2 := isDigit_any s[k] w
        have hkl : k < s.data.toList.length := by rw [← Lib.size_eq]; exact hlt
        have HN : Hid ((s.data.toList.take (k + 1)).all nmC = nmC (s[k]'hlt)) := by
          show (s.data.toList.take (k + 1)).all nmC = nmC (s[k]'hlt)
          rw [all_take_succ nmC _ 0 k hkl, HA.out, hg]; rfl
        have HF : Hid (nmC (s[k]'hlt) = false → s.data.toList.all nmC = false) := fun g => all_not_of_at nmC _ 0 k hkl (by rw [hg]; exact g)
        clear hg hkl
        cases hl : isLet s[k] with
        | true =>
          have HX : Hid ((s.data.toList.take (k + 1)).all nmC = true) := by
            show (s.data.toList.take (k + 1)).all nmC = true
            rw [HN.out]; unfold nmC; rw [hl]; rfl
          rw [hl] at H1
          have HC : Hid (Calls Tryz.prog 96 #[.int .u8 (s[k].toNat : Int)] w fun e w' => e = .returned (.bool true) ∧ w' = w) := H1
          clear hl H1 H2 HN HF
          go_wp2_with fail
          refine HC.out.mono ?_
          rintro e w1 ⟨rfl, hw⟩
          obtain rfl := hw.symm
          clear HC
          go_wp2_with fail
          go_roundw
          case rel => exact ⟨k + 1, hlt, by go_num, trivial, HX.out⟩
          case measure => simp [intOf]; omega
        | false =>
          rw [hl] at H1
          have HC : Hid (Calls Tryz.prog 96 #[.int .u8 (s[k].toNat : Int)] w fun e w' => e = .returned (.bool false) ∧ w' = w) := H1
          cases hd : isDig s[k] with
          | true =>
            have HX : Hid ((s.data.toList.take (k + 1)).all nmC = true) := by
              show (s.data.toList.take (k + 1)).all nmC = true
              rw [HN.out]; unfold nmC; rw [hd]; simp
            rw [hd] at H2
            have HD : Hid (Calls Tryz.prog 97 #[.int .u8 (s[k].toNat : Int)] w fun e w' => e = .returned (.bool true) ∧ w' = w) := H2
            clear hl hd H1 H2 HN HF
            go_wp2_with fail
            refine HC.out.mono ?_
            rintro e w1 ⟨rfl, hw⟩
            obtain rfl := hw.symm
            go_wp2_with fail
            refine HD.out.mono ?_
            rintro e w1 ⟨rfl, hw⟩
            obtain rfl := hw.symm
            clear HC HD
            go_wp2_with fail
            go_roundw
            case rel => exact ⟨k + 1, hlt, by go_num, trivial, HX.out⟩
            case measure => simp [intOf]; omega
          | false =>
            have HX : Hid (B = false) := by
              show B = false
              rw [HQ.out, HF.out (by unfold nmC; rw [hl, hd]; rfl)]; rfl
            rw [hd] at H2
            have HD : Hid (Calls Tryz.prog 97 #[.int .u8 (s[k].toNat : Int)] w fun e w' => e = .returned (.bool false) ∧ w' = w) := H2
            clear hl hd H1 H2 HN HF
            go_wp2_with fail
            refine HC.out.mono ?_
            rintro e w1 ⟨rfl, hw⟩
            obtain rfl := hw.symm
            go_wp2_with fail
            refine HD.out.mono ?_
            rintro e w1 ⟨rfl, hw⟩
            obtain rfl := hw.symm
            clear HC HD
            go_wp2_with fail
            go_ret
            exact ⟨by rw [HX.out]; rfl, rfl⟩
      · have HX : Hid (B = nmTail s.data.toList) := by
          show B = _
          have hks : k = s.data.toList.length := by rw [← Lib.size_eq]; omega
          have := HA.out
          rw [hks, List.take_length] at this
          rw [HQ.out, this]; simp
        clear HA HQ
        have ht : ∀ x : Bs, s.toList = x → (s.data.toList == x) = true := fun x h => by rw [← Lib.toList_data, h]; exact beq_self_eq_true x
        have hf : ∀ x : Bs, ¬ s.toList = x → (s.data.toList == x) = false := fun x h => beq_eq_false_iff_ne.2 (fun e => h (by rw [Lib.toList_data]; exact e))
        by_cases h1 : s.toList = [118, 97, 114]
        · have hb : Hid (B = false) := by show B = false; rw [HX.out]; unfold nmTail; rw [ht kVar h1]; rfl
          clear HX ht hf
          go_wp2_with fail
          go_ret
          exact ⟨by rw [hb.out]; rfl, rfl⟩
        by_cases h2 : s.toList = [102, 110]
        · have hb : Hid (B = false) := by show B = false; rw [HX.out]; unfold nmTail; rw [ht kFn h2]; simp
          clear HX ht hf
          go_wp2_with fail
          go_ret
          exact ⟨by rw [hb.out]; rfl, rfl⟩
        by_cases h3 : s.toList = [110, 101, 119]
        · have hb : Hid (B = false) := by show B = false; rw [HX.out]; unfold nmTail; rw [ht kNew h3]; simp
          clear HX ht hf
          go_wp2_with fail
          go_ret
          exact ⟨by rw [hb.out]; rfl, rfl⟩
        by_cases h4 : s.toList = [99, 97, 108, 108]
        · have hb : Hid (B = false) := by show B = false; rw [HX.out]; unfold nmTail; rw [ht kCall h4]; simp
          clear HX ht hf
          go_wp2_with fail
          go_ret
          exact ⟨by rw [hb.out]; rfl, rfl⟩
        have hb : Hid (B = true) := by show B = true; rw [HX.out]; unfold nmTail; rw [hf kVar h1, hf kFn h2, hf kNew h3, hf kCall h4]; rfl
        have g1 : (s.toList == [118, 97, 114]) = false := beq_eq_false_iff_ne.2 h1
        have g2 : (s.toList == [102, 110]) = false := beq_eq_false_iff_ne.2 h2
        have g3 : (s.toList == [110, 101, 119]) = false := beq_eq_false_iff_ne.2 h3
        have g4 : (s.toList == [99, 97, 108, 108]) = false := beq_eq_false_iff_ne.2 h4
        clear HX ht hf h1 h2 h3 h4
        go_wp2_with fail
        go_ret
        exact ⟨by rw [hb.out]; rfl, rfl⟩
theorem isName_any (l : Bs) (w : World) : Calls Tryz.prog 69 #[.string (S l)] w fun e w' => e = .returned (.bool (isNm l)) ∧ w' = w := by
  have := isName_s (S l) w
  rwa [S_data] at this

/-- below's function: the number lies in a cell. -/
theorem below1_any (n : Nat) (k : Int) (pb : Nat) (w : World) (h : w.cell? ⟨pb, 0, none⟩ = some (.int .i64 (n : Int))) :
    Calls Tryz.prog 99 #[.int .i64 k, .pointer (some ⟨pb, 0, none⟩)] w fun e w' => e = .returned (.bool (decide (0 ≤ k) && decide (k < (n : Int)))) ∧ w' = w := by
  by_cases h0 : 0 ≤ k
  · by_cases h1 : k < (n : Int)
    · have e : (decide (0 ≤ k) && decide (k < (n : Int))) = true := by simp [h0, h1]
      rw [e]; clear e
      go_enter Tryz.func99, Tryz.ntmps99
      go_wp2
      go_ret
      exact ⟨rfl, rfl⟩
    · have e : (decide (0 ≤ k) && decide (k < (n : Int))) = false := by simp [h1]
      rw [e]; clear e
      go_enter Tryz.func99, Tryz.ntmps99
      go_wp2
      go_ret
      exact ⟨rfl, rfl⟩
  · have e : (decide (0 ≤ k) && decide (k < (n : Int))) = false := by simp [h0]
    rw [e]; clear e
    go_enter Tryz.func99, Tryz.ntmps99
    go_wp2
    go_ret
    exact ⟨rfl, rfl⟩
/-- below. -/
theorem below_any (n : Nat) (w : World) : Calls Tryz.prog 71 #[.int .i64 (n : Int)] w fun e w' => e = .returned (.func (Fn.func 99) #[] #[.pointer (some ⟨w.heap.size, 0, none⟩)]) ∧ w' = w.alloc (.cells #[.int .i64 (n : Int)] 3) := by
  go_enter Tryz.func71, Tryz.ntmps71
  go_wp2
  go_ret
  exact ⟨rfl, rfl⟩

set_option maxHeartbeats 2000000 in
/-- slices.IndexFunc at strings, with the function that all makes. -/
theorem indexFuncS (p : Bs → Bool) (ss : List Bs) (v : Value) (pb : Nat) (w : World) (hm : ss.length ≤ 1000000) (h : IsStrs w v ss)
    (hcl : ∀ wr x, Below w.heap.size w wr → Calls Tryz.prog 95 #[.string (S x), .pointer (some ⟨pb, 0, none⟩)] wr fun e w' => e = .returned (.bool (p x)) ∧ Below wr.heap.size wr w') :
    Calls Tryz.prog 125 #[v, .func (Fn.func 95) #[] #[.pointer (some ⟨pb, 0, none⟩)]] w fun e w' => ∃ r : Int, e = .returned (.int .i64 r) ∧ ((0 ≤ r ∧ ss.any p = true) ∨ (r = -1 ∧ ss.any p = false)) ∧ Below w.heap.size w w' := by
  have HCL : Hid (∀ wr x, Below w.heap.size w wr → Calls Tryz.prog 95 #[.string (S x), .pointer (some ⟨pb, 0, none⟩)] wr fun e w' => e = .returned (.bool (p x)) ∧ Below wr.heap.size wr w') := hcl
  clear hcl
  obtain ⟨a, c, rfl, hcp, hc⟩ := h
  clear hcp
  have HC : Hid (∀ j, j < ss.length → ∃ b o, a = some ⟨b, o, none⟩ ∧ w.cell? ⟨b, o + j, none⟩ = some (.string (S (ss.getD j [])))) := hc
  clear hc
  generalize hn : ss.length = n at *
  have HN : Hid (ss.length = n) := hn
  clear hn
  go_enter Tryz.func125, Tryz.ntmps125
  go_wp2_with fail
  go_loopw [8] (fun t wr => ∃ k : Nat, k ≤ n ∧ t = .int .i64 k ∧ (ss.take k).any p = false ∧ Below w.heap.size w wr) (fun t _ => (n - intOf t).toNat)
  case atStart => exact ⟨0, Nat.zero_le _, rfl, rfl, Below.refl _ _⟩
  case round =>
    obtain ⟨k, hk, rfl, hall, hB⟩ := hrel
    have HA : Hid ((ss.take k).any p = false) := hall
    clear hall
    by_cases hlt : k < n
    · obtain ⟨b, o, rfl, e0⟩ := HC.out k hlt
      have e1 := cell_keep hB e0
      obtain ⟨z, hze⟩ : ∃ z, z = ss.getD k [] := ⟨_, rfl⟩
      rw [← hze] at e1
      have HZ : Hid (z = ss.getD k []) := hze
      clear hze e0
      have hl : k < ss.length := by rw [HN.out]; exact hlt
      have hany : (ss.take (k + 1)).any p = p z := by
        rw [List.take_succ_eq_append_getElem hl, List.any_append, HA.out]
        simp [HZ.out, List.getD, hl]
      have hat : p z = true → ss.any p = true := fun g => List.any_eq_true.2 ⟨ss[k], List.getElem_mem hl, by rw [HZ.out] at g; simpa [List.getD, hl] using g⟩
      have HY : Hid ((ss.take (k + 1)).any p = p z ∧ (p z = true → ss.any p = true)) := ⟨hany, hat⟩
      clear hl hany hat
      go_wp2_with fail
      refine (HCL.out wr z hB).mono ?_
      rintro e w1 ⟨rfl, hB1⟩
      have hBw : Below w.heap.size w w1 := hB.trans (hB1.mono hB.size)
      clear hB1
      cases hpz : p z with
      | true =>
        have HP : Hid (ss.any p = true) := HY.out.2 hpz
        clear hpz
        go_wp2_with fail
        go_ret
        exact ⟨k, rfl, Or.inl ⟨by omega, HP.out⟩, hBw⟩
      | false =>
        have HP : Hid ((ss.take (k + 1)).any p = false) := by
          show (ss.take (k + 1)).any p = false
          rw [HY.out.1]; exact hpz
        clear hpz
        go_wp2_with fail
        go_roundw
        case rel => exact ⟨k + 1, hlt, by go_num, HP.out, hBw⟩
        case measure => simp [intOf]; omega
    · go_wp2_with fail
      go_ret
      refine ⟨-1, rfl, Or.inr ⟨rfl, ?_⟩, hB⟩
      have hkn : k = ss.length := by rw [HN.out]; omega
      have := HA.out
      rw [hkn, List.take_length] at this
      exact this
end Go.Proofs.YtglonlpfnllocaaGreatDoor

/-
  Package prog: all at names, numbers and functions, by contracts.
-/
namespace Go.Proofs.YtglonlpfnllocaaGreatDoor
open Go.RowKit Go.Extern.Stop Go.Stop Go.Extern

theorem any_take {α : Type} (p : α → Bool) (l : List α) (d : α) (k : Nat) (h : k < l.length) (h0 : (l.take k).any p = false) : (l.take (k + 1)).any p = p (l.getD k d) := by
  rw [List.take_succ_eq_append_getElem h, List.any_append, h0]
  simp [List.getD, h]
theorem any_here {α : Type} (p : α → Bool) (l : List α) (d : α) (k : Nat) (h : k < l.length) (g : p (l.getD k d) = true) : l.any p = true :=
  List.any_eq_true.2 ⟨l[k], List.getElem_mem h, by simpa [List.getD, h] using g⟩
theorem not_any {α : Type} (p : α → Bool) (l : List α) : (!l.any fun x => !p x) = l.all p := by
  rw [List.not_any_eq_all_not]
  exact List.all_congr rfl (fun x => by rw [Bool.not_not])

set_option maxHeartbeats 2000000 in
theorem indexFuncI (p : Int → Bool) (ss : List Int) (v : Value) (pb : Nat) (w : World) (hm : ss.length ≤ 1000000) (h : IsInts w v ss)
    (hcl : ∀ wr x, Below w.heap.size w wr → Calls Tryz.prog 102 #[.int .i64 x, .pointer (some ⟨pb, 0, none⟩)] wr fun e w' => e = .returned (.bool (p x)) ∧ Below wr.heap.size wr w') :
    Calls Tryz.prog 88 #[v, .func (Fn.func 102) #[] #[.pointer (some ⟨pb, 0, none⟩)]] w fun e w' => ∃ r : Int, e = .returned (.int .i64 r) ∧ ((0 ≤ r ∧ ss.any p = true) ∨ (r = -1 ∧ ss.any p = false)) ∧ Below w.heap.size w w' := by
  have HCL : Hid (∀ wr x, Below w.heap.size w wr → Calls Tryz.prog 102 #[.int .i64 x, .pointer (some ⟨pb, 0, none⟩)] wr fun e w' => e = .returned (.bool (p x)) ∧ Below wr.heap.size wr w') := hcl
  clear hcl
  have HC : Hid (IsInts w v ss) := h
  obtain ⟨a, c, rfl⟩ := isInts_form h
  clear h
  generalize hn : ss.length = n at *
  have HN : Hid (ss.length = n) := hn
  clear hn
  go_enter Tryz.func88, Tryz.ntmps88
  go_wp2_with fail
  go_loopw [8] (fun t wr => ∃ k : Nat, k ≤ n ∧ t = .int .i64 k ∧ (ss.take k).any p = false ∧ Below w.heap.size w wr) (fun t _ => (n - intOf t).toNat)
  case atStart => exact ⟨0, Nat.zero_le _, rfl, rfl, Below.refl _ _⟩
  case round =>
    obtain ⟨k, hk, rfl, hall, hB⟩ := hrel
    have HA : Hid ((ss.take k).any p = false) := hall
    clear hall
    by_cases hlt : k < n
    · have hl : k < ss.length := by rw [HN.out]; exact hlt
      have HY : Hid ((ss.take (k + 1)).any p = p (ss.getD k 0) ∧ (p (ss.getD k 0) = true → ss.any p = true)) := ⟨any_take p ss 0 k hl HA.out, any_here p ss 0 k hl⟩
      clear hl
      obtain ⟨b, o, rfl, e0⟩ := isInts_at HC.out k (by rw [HN.out]; exact hlt)
      have e1 := cell_keep hB e0
      obtain ⟨z, hze⟩ : ∃ z, z = ss.getD k 0 := ⟨_, rfl⟩
      rw [← hze] at e1 HY
      clear hze e0
      go_wp2_with fail
      refine (HCL.out wr z hB).mono ?_
      rintro e w1 ⟨rfl, hB1⟩
      have hBw : Below w.heap.size w w1 := hB.trans (hB1.mono hB.size)
      clear hB1
      cases hpz : p z with
      | true =>
        have HP : Hid (ss.any p = true) := HY.out.2 hpz
        clear hpz
        go_wp2_with fail
        go_ret
        exact ⟨k, rfl, Or.inl ⟨by omega, HP.out⟩, hBw⟩
      | false =>
        have HP : Hid ((ss.take (k + 1)).any p = false) := by
          show (ss.take (k + 1)).any p = false
          rw [HY.out.1]; exact hpz
        clear hpz
        go_wp2_with fail
        go_roundw
        case rel => exact ⟨k + 1, hlt, by go_num, HP.out, hBw⟩
        case measure => simp [intOf]; omega
    · go_wp2_with fail
      go_ret
      refine ⟨-1, rfl, Or.inr ⟨rfl, ?_⟩, hB⟩
      have hkn : k = ss.length := by rw [HN.out]; omega
      have := HA.out
      rw [hkn, List.take_length] at this
      exact this

set_option maxHeartbeats 2000000 in
theorem indexFuncF (p : FunD → Bool) (ss : List FunD) (v : Value) (pb : Nat) (w : World) (hm : ss.length ≤ 1000000) (h : IsFuns w v ss)
    (hcl : ∀ wr x pv, Below w.heap.size w wr → x ∈ ss → IsCap wr pv x.params → Calls Tryz.prog 101 #[.agg #[.string (S x.name), pv, .int .i64 x.ret], .pointer (some ⟨pb, 0, none⟩)] wr fun e w' => e = .returned (.bool (p x)) ∧ Below wr.heap.size wr w') :
    Calls Tryz.prog 127 #[v, .func (Fn.func 101) #[] #[.pointer (some ⟨pb, 0, none⟩)]] w fun e w' => ∃ r : Int, e = .returned (.int .i64 r) ∧ ((0 ≤ r ∧ ss.any p = true) ∨ (r = -1 ∧ ss.any p = false)) ∧ Below w.heap.size w w' := by
  have HCL : Hid (∀ wr x pv, Below w.heap.size w wr → x ∈ ss → IsCap wr pv x.params → Calls Tryz.prog 101 #[.agg #[.string (S x.name), pv, .int .i64 x.ret], .pointer (some ⟨pb, 0, none⟩)] wr fun e w' => e = .returned (.bool (p x)) ∧ Below wr.heap.size wr w') := hcl
  clear hcl
  obtain ⟨a, c, rfl, hcp, hc⟩ := h
  clear hcp
  have HC : Hid (∀ j, j < ss.length → ∃ b o, a = some ⟨b, o, none⟩ ∧ FunAt w b (o + j * 3) (ss.getD j default)) := hc
  clear hc
  generalize hn : ss.length = n at *
  have HN : Hid (ss.length = n) := hn
  clear hn
  go_enter Tryz.func127, Tryz.ntmps127
  go_wp2_with fail
  go_loopw [8] (fun t wr => ∃ k : Nat, k ≤ n ∧ t = .int .i64 k ∧ (ss.take k).any p = false ∧ Below w.heap.size w wr) (fun t _ => (n - intOf t).toNat)
  case atStart => exact ⟨0, Nat.zero_le _, rfl, rfl, Below.refl _ _⟩
  case round =>
    obtain ⟨k, hk, rfl, hall, hB⟩ := hrel
    have HA : Hid ((ss.take k).any p = false) := hall
    clear hall
    by_cases hlt : k < n
    · have hl : k < ss.length := by rw [HN.out]; exact hlt
      have HY : Hid ((ss.take (k + 1)).any p = p (ss.getD k default) ∧ (p (ss.getD k default) = true → ss.any p = true)) := ⟨any_take p ss default k hl HA.out, any_here p ss default k hl⟩
      clear hl
      obtain ⟨b, o, rfl, e0⟩ := HC.out k hlt
      obtain ⟨z, hze⟩ : ∃ z, z = ss.getD k default := ⟨_, rfl⟩
      have HM : Hid (z ∈ ss) := by
        show z ∈ ss
        have hl2 : k < ss.length := by rw [HN.out]; exact hlt
        rw [hze]
        simp [List.getD, hl2]
      rw [← hze] at e0 HY
      clear hze
      obtain ⟨pv, c1, c2, hi, c3⟩ := e0.below hB
      have HI : Hid (IsCap wr pv z.params) := hi
      clear e0 hi
      go_wp2_with fail
      refine (HCL.out wr z pv hB HM.out HI.out).mono ?_
      rintro e w1 ⟨rfl, hB1⟩
      have hBw : Below w.heap.size w w1 := hB.trans (hB1.mono hB.size)
      clear hB1
      cases hpz : p z with
      | true =>
        have HP : Hid (ss.any p = true) := HY.out.2 hpz
        clear hpz
        go_wp2_with fail
        go_ret
        exact ⟨k, rfl, Or.inl ⟨by omega, HP.out⟩, hBw⟩
      | false =>
        have HP : Hid ((ss.take (k + 1)).any p = false) := by
          show (ss.take (k + 1)).any p = false
          rw [HY.out.1]; exact hpz
        clear hpz
        go_wp2_with fail
        go_roundw
        case rel => exact ⟨k + 1, hlt, by go_num, HP.out, hBw⟩
        case measure => simp [intOf]; omega
    · go_wp2_with fail
      go_ret
      refine ⟨-1, rfl, Or.inr ⟨rfl, ?_⟩, hB⟩
      have hkn : k = ss.length := by rw [HN.out]; omega
      have := HA.out
      rw [hkn, List.take_length] at this
      exact this

theorem containsFuncS (p : Bs → Bool) (ss : List Bs) (v : Value) (pb : Nat) (w : World) (hm : ss.length ≤ 1000000) (h : IsStrs w v ss)
    (hcl : ∀ wr x, Below w.heap.size w wr → Calls Tryz.prog 95 #[.string (S x), .pointer (some ⟨pb, 0, none⟩)] wr fun e w' => e = .returned (.bool (p x)) ∧ Below wr.heap.size wr w') :
    Calls Tryz.prog 94 #[v, .func (Fn.func 95) #[] #[.pointer (some ⟨pb, 0, none⟩)]] w fun e w' => e = .returned (.bool (ss.any p)) ∧ Below w.heap.size w w' := by
  have HK : Hid (Calls Tryz.prog 125 #[v, .func (Fn.func 95) #[] #[.pointer (some ⟨pb, 0, none⟩)]] w fun e w' => ∃ r : Int, e = .returned (.int .i64 r) ∧ ((0 ≤ r ∧ ss.any p = true) ∨ (r = -1 ∧ ss.any p = false)) ∧ Below w.heap.size w w') := indexFuncS p ss v pb w hm h hcl
  clear hcl h hm
  obtain ⟨B, hBe⟩ : ∃ B, B = ss.any p := ⟨_, rfl⟩
  rw [← hBe] at HK ⊢
  clear hBe
  go_enter Tryz.func94, Tryz.ntmps94
  go_wp2_with fail
  refine HK.out.mono ?_
  rintro e w1 ⟨r, rfl, hr, hB⟩
  rcases hr with ⟨h1, rfl⟩ | ⟨rfl, rfl⟩
  · go_wp2
    go_ret
    exact ⟨rfl, hB⟩
  · go_wp2
    go_ret
    exact ⟨rfl, hB⟩

theorem containsFuncI (p : Int → Bool) (ss : List Int) (v : Value) (pb : Nat) (w : World) (hm : ss.length ≤ 1000000) (h : IsInts w v ss)
    (hcl : ∀ wr x, Below w.heap.size w wr → Calls Tryz.prog 102 #[.int .i64 x, .pointer (some ⟨pb, 0, none⟩)] wr fun e w' => e = .returned (.bool (p x)) ∧ Below wr.heap.size wr w') :
    Calls Tryz.prog 53 #[v, .func (Fn.func 102) #[] #[.pointer (some ⟨pb, 0, none⟩)]] w fun e w' => e = .returned (.bool (ss.any p)) ∧ Below w.heap.size w w' := by
  have HK : Hid (Calls Tryz.prog 88 #[v, .func (Fn.func 102) #[] #[.pointer (some ⟨pb, 0, none⟩)]] w fun e w' => ∃ r : Int, e = .returned (.int .i64 r) ∧ ((0 ≤ r ∧ ss.any p = true) ∨ (r = -1 ∧ ss.any p = false)) ∧ Below w.heap.size w w') := indexFuncI p ss v pb w hm h hcl
  clear hcl h hm
  obtain ⟨B, hBe⟩ : ∃ B, B = ss.any p := ⟨_, rfl⟩
  rw [← hBe] at HK ⊢
  clear hBe
  go_enter Tryz.func53, Tryz.ntmps53
  go_wp2_with fail
  refine HK.out.mono ?_
  rintro e w1 ⟨r, rfl, hr, hB⟩
  rcases hr with ⟨h1, rfl⟩ | ⟨rfl, rfl⟩
  · go_wp2
    go_ret
    exact ⟨rfl, hB⟩
  · go_wp2
    go_ret
    exact ⟨rfl, hB⟩

theorem containsFuncF (p : FunD → Bool) (ss : List FunD) (v : Value) (pb : Nat) (w : World) (hm : ss.length ≤ 1000000) (h : IsFuns w v ss)
    (hcl : ∀ wr x pv, Below w.heap.size w wr → x ∈ ss → IsCap wr pv x.params → Calls Tryz.prog 101 #[.agg #[.string (S x.name), pv, .int .i64 x.ret], .pointer (some ⟨pb, 0, none⟩)] wr fun e w' => e = .returned (.bool (p x)) ∧ Below wr.heap.size wr w') :
    Calls Tryz.prog 100 #[v, .func (Fn.func 101) #[] #[.pointer (some ⟨pb, 0, none⟩)]] w fun e w' => e = .returned (.bool (ss.any p)) ∧ Below w.heap.size w w' := by
  have HK : Hid (Calls Tryz.prog 127 #[v, .func (Fn.func 101) #[] #[.pointer (some ⟨pb, 0, none⟩)]] w fun e w' => ∃ r : Int, e = .returned (.int .i64 r) ∧ ((0 ≤ r ∧ ss.any p = true) ∨ (r = -1 ∧ ss.any p = false)) ∧ Below w.heap.size w w') := indexFuncF p ss v pb w hm h hcl
  clear hcl h hm
  obtain ⟨B, hBe⟩ : ∃ B, B = ss.any p := ⟨_, rfl⟩
  rw [← hBe] at HK ⊢
  clear hBe
  go_enter Tryz.func100, Tryz.ntmps100
  go_wp2_with fail
  refine HK.out.mono ?_
  rintro e w1 ⟨r, rfl, hr, hB⟩
  rcases hr with ⟨h1, rfl⟩ | ⟨rfl, rfl⟩
  · go_wp2
    go_ret
    exact ⟨rfl, hB⟩
  · go_wp2
    go_ret
    exact ⟨rfl, hB⟩

/-- all's function, at isName. -/
theorem all1S (l : Bs) (pb : Nat) (w : World) (h : w.cell? ⟨pb, 0, none⟩ = some (.func (Fn.func 69) #[] #[])) :
    Calls Tryz.prog 95 #[.string (S l), .pointer (some ⟨pb, 0, none⟩)] w fun e w' => e = .returned (.bool (!isNm l)) ∧ w' = w := by
  have HK : Hid (Calls Tryz.prog 69 #[.string (S l)] w fun e w' => e = .returned (.bool (isNm l)) ∧ w' = w) := isName_any l w
  obtain ⟨B, hB⟩ : ∃ B, B = isNm l := ⟨_, rfl⟩
  rw [← hB] at HK ⊢
  clear hB
  go_enter Tryz.func95, Tryz.ntmps95
  go_wp2_with fail
  refine HK.out.mono ?_
  rintro e w1 ⟨rfl, hw⟩
  obtain rfl := hw.symm
  go_wp2_with fail
  go_ret
  exact ⟨rfl, rfl⟩
theorem allS (ss : List Bs) (v : Value) (w : World) (hm : ss.length ≤ 1000000) (h : IsStrs w v ss) :
    Calls Tryz.prog 68 #[v, .func (Fn.func 69) #[] #[]] w fun e w' => e = .returned (.bool (ss.all isNm)) ∧ Below w.heap.size w w' := by
  have H : Hid (IsStrs w v ss) := h
  obtain ⟨a, c, rfl, _, _⟩ := h
  have hB0 := fun o => (Below.refl w.heap.size w).alloc (Nat.le_refl _) o
  go_enter Tryz.func68, Tryz.ntmps68
  go_wp2_with fail
  refine (containsFuncS (fun x => !isNm x) ss _ w.heap.size _ hm (H.out.below (hB0 _)) (fun wr x hb => (all1S x w.heap.size wr (cell_keep hb (by simp))).mono ?_)).mono ?_
  · rintro e w' ⟨rfl, rfl⟩
    exact ⟨rfl, Below.refl _ _⟩
  rintro e w1 ⟨rfl, hB1⟩
  have hBw : Below w.heap.size w w1 := (hB0 _).trans (hB1.mono (by simp))
  have hq := not_any isNm ss
  obtain ⟨B, hB⟩ : ∃ B, B = (ss.any fun x => !isNm x) := ⟨_, rfl⟩
  rw [← hB] at hq ⊢
  have HQ : Hid ((!B) = ss.all isNm) := hq
  clear hB hq hB1
  go_wp2_with fail
  go_ret
  exact ⟨by rw [← HQ.out]; rfl, hBw⟩

/-- all's function, at below's. -/
theorem all1I (n : Nat) (k : Int) (pb nb : Nat) (w : World) (h : w.cell? ⟨pb, 0, none⟩ = some (.func (Fn.func 99) #[] #[.pointer (some ⟨nb, 0, none⟩)])) (hn : w.cell? ⟨nb, 0, none⟩ = some (.int .i64 (n : Int))) :
    Calls Tryz.prog 102 #[.int .i64 k, .pointer (some ⟨pb, 0, none⟩)] w fun e w' => e = .returned (.bool (!(decide (0 ≤ k) && decide (k < (n : Int))))) ∧ w' = w := by
  have HK : Hid (Calls Tryz.prog 99 #[.int .i64 k, .pointer (some ⟨nb, 0, none⟩)] w fun e w' => e = .returned (.bool (decide (0 ≤ k) && decide (k < (n : Int)))) ∧ w' = w) := below1_any n k nb w hn
  obtain ⟨B, hB⟩ : ∃ B, B = (decide (0 ≤ k) && decide (k < (n : Int))) := ⟨_, rfl⟩
  rw [← hB] at HK ⊢
  clear hB hn
  go_enter Tryz.func102, Tryz.ntmps102
  go_wp2_with fail
  refine HK.out.mono ?_
  rintro e w1 ⟨rfl, hw⟩
  obtain rfl := hw.symm
  go_wp2_with fail
  go_ret
  exact ⟨rfl, rfl⟩
theorem allI (n : Nat) (zs : List Int) (v : Value) (nb : Nat) (w : World) (hm : zs.length ≤ 1000000) (h : IsInts w v zs) (hn : w.cell? ⟨nb, 0, none⟩ = some (.int .i64 (n : Int))) :
    Calls Tryz.prog 75 #[v, .func (Fn.func 99) #[] #[.pointer (some ⟨nb, 0, none⟩)]] w fun e w' => e = .returned (.bool (zs.all fun k => decide (0 ≤ k) && decide (k < (n : Int)))) ∧ Below w.heap.size w w' := by
  have H : Hid (IsInts w v zs) := h
  have HN : Hid (w.cell? ⟨nb, 0, none⟩ = some (.int .i64 (n : Int))) := hn
  obtain ⟨a, c, rfl⟩ := isInts_form h
  clear h hn
  have hB0 := fun o => (Below.refl w.heap.size w).alloc (Nat.le_refl _) o
  go_enter Tryz.func75, Tryz.ntmps75
  go_wp2_with fail
  refine (containsFuncI (fun k => !(decide (0 ≤ k) && decide (k < (n : Int)))) zs _ w.heap.size _ hm (H.out.below (hB0 _)) (fun wr x hb => (all1I n x w.heap.size nb wr (cell_keep hb (by simp)) (cell_keep hb (cell_keep (hB0 _) HN.out))).mono ?_)).mono ?_
  · rintro e w' ⟨rfl, rfl⟩
    exact ⟨rfl, Below.refl _ _⟩
  rintro e w1 ⟨rfl, hB1⟩
  have hBw : Below w.heap.size w w1 := (hB0 _).trans (hB1.mono (by simp))
  have hq := not_any (fun k : Int => decide (0 ≤ k) && decide (k < (n : Int))) zs
  obtain ⟨B, hB⟩ : ∃ B, B = (zs.any fun k => !(decide (0 ≤ k) && decide (k < (n : Int)))) := ⟨_, rfl⟩
  rw [← hB] at hq ⊢
  have HQ : Hid ((!B) = zs.all fun k => decide (0 ≤ k) && decide (k < (n : Int))) := hq
  clear hB hq hB1
  go_wp2_with fail
  go_ret
  exact ⟨by rw [← HQ.out]; rfl, hBw⟩

/-- all's function at a function of functions. -/
theorem all1F (g : Nat) (lb : Array Value) (eg : ∀ args w, (callFunc g args).run Tryz.prog w = .ok (.enter g args) w) (p : FunD → Bool) (f : FunD) (pv : Value) (pb : Nat) (w : World) (h : w.cell? ⟨pb, 0, none⟩ = some (.func (Fn.func g) #[] lb)) (hi : IsCap w pv f.params)
    (hcl : ∀ wr, Below w.heap.size w wr → Calls Tryz.prog g (#[.agg #[.string (S f.name), pv, .int .i64 f.ret]] ++ lb) wr fun e w' => e = .returned (.bool (p f)) ∧ Below wr.heap.size wr w') :
    Calls Tryz.prog 101 #[.agg #[.string (S f.name), pv, .int .i64 f.ret], .pointer (some ⟨pb, 0, none⟩)] w fun e w' => e = .returned (.bool (!p f)) ∧ Below w.heap.size w w' := by
  have HC : Hid (∀ wr, Below w.heap.size w wr → Calls Tryz.prog g (#[.agg #[.string (S f.name), pv, .int .i64 f.ret]] ++ lb) wr fun e w' => e = .returned (.bool (p f)) ∧ Below wr.heap.size wr w') := hcl
  clear hcl
  obtain ⟨B, hB⟩ : ∃ B, B = p f := ⟨_, rfl⟩
  rw [← hB] at HC ⊢
  clear hB
  have hlt := lt_of_cell h
  have hB0 := fun o => (Below.refl w.heap.size w).alloc (Nat.le_refl _) o
  have h0 := fun o => cell_keep (hB0 o) h
  obtain ⟨pa, pc, rfl⟩ := isInts_form hi.1
  clear h hi
  go_enter Tryz.func101, Tryz.ntmps101
  go_wp2_with fail
  refine (HC.out _ (hB0 _)).mono ?_
  rintro e w1 ⟨rfl, hB1⟩
  have hBw : Below w.heap.size w w1 := (hB0 _).trans (hB1.mono (by simp))
  clear hB1
  go_wp2_with fail
  go_ret
  exact ⟨rfl, hBw⟩
theorem allF (g : Nat) (lb : Array Value) (eg : ∀ args w, (callFunc g args).run Tryz.prog w = .ok (.enter g args) w) (p : FunD → Bool) (fs : List FunD) (v : Value) (w : World) (hm : fs.length ≤ 1000000) (h : IsFuns w v fs)
    (hcl : ∀ wr f pv, Below w.heap.size w wr → f ∈ fs → IsCap wr pv f.params → Calls Tryz.prog g (#[.agg #[.string (S f.name), pv, .int .i64 f.ret]] ++ lb) wr fun e w' => e = .returned (.bool (p f)) ∧ Below wr.heap.size wr w') :
    Calls Tryz.prog 72 #[v, .func (Fn.func g) #[] lb] w fun e w' => e = .returned (.bool (fs.all p)) ∧ Below w.heap.size w w' := by
  have H : Hid (IsFuns w v fs) := h
  have HC : Hid (∀ wr f pv, Below w.heap.size w wr → f ∈ fs → IsCap wr pv f.params → Calls Tryz.prog g (#[.agg #[.string (S f.name), pv, .int .i64 f.ret]] ++ lb) wr fun e w' => e = .returned (.bool (p f)) ∧ Below wr.heap.size wr w') := hcl
  obtain ⟨a, c, rfl, _, _⟩ := h
  clear hcl
  have hB0 := fun o => (Below.refl w.heap.size w).alloc (Nat.le_refl _) o
  go_enter Tryz.func72, Tryz.ntmps72
  go_wp2_with fail
  refine (containsFuncF (fun f => !p f) fs _ w.heap.size _ hm (H.out.below (hB0 _)) (fun wr f pv hb hmem hi => all1F g lb eg p f pv w.heap.size wr (cell_keep hb (by simp)) hi (fun wr2 hb2 => HC.out wr2 f pv ((hB0 _).trans ((hb.trans (hb2.mono hb.size)).mono (by simp))) hmem (hi.below hb2)))).mono ?_
  rintro e w1 ⟨rfl, hB1⟩
  have hBw : Below w.heap.size w w1 := (hB0 _).trans (hB1.mono (by simp))
  have hq := not_any p fs
  obtain ⟨B, hB⟩ : ∃ B, B = (fs.any fun x => !p x) := ⟨_, rfl⟩
  rw [← hB] at hq ⊢
  have HQ : Hid ((!B) = fs.all p) := hq
  clear hB hq hB1
  go_wp2_with fail
  go_ret
  exact ⟨by rw [← HQ.out]; rfl, hBw⟩
end Go.Proofs.YtglonlpfnllocaaGreatDoor

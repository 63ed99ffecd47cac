/-
  faulted: an error's number and place, by a contract.
-/
import Derived.Test.YtakmmpbkojhmhaaGreatDoorXCM
import Derived.Test.YtakmmpbkojhmhaaGreatDoorPI
import Derived.Test.YtakmmpbkojhmhaaGreatDoorPJ
import Derived.Lib.QuietBelow
namespace Go.Proofs.YtakmmpbkojhmhaaGreatDoor
open Go.RowKit Go.Extern.Stop Go.Stop Go.Extern

theorem funsE_lt {P : ProgD} {i : Nat} (h : funsE P = some i) : i < 11 := by
  unfold funsE at h
  split at h
  · cases h; decide
  · split at h
    · cases h; decide
    · split at h
      · cases h; decide
      · cases h
theorem namesE_lt {vs fs : List Bs} {i : Nat} (h : namesE vs fs = some i) : i < 11 := by
  unfold namesE at h
  split at h
  · cases h; decide
  · split at h
    · cases h; decide
    · cases h
theorem stmtE_lt {P : ProgD} {s : StmtD} {i : Nat} (h : stmtE P s = some i) : i < 11 := by
  unfold stmtE at h
  repeat' split at h
  all_goals cases h
  all_goals decide
theorem stmtsE_lt {P : ProgD} (l : List StmtD) (k : Nat) {x : Nat × Int} (h : stmtsE P k l = some x) : x.1 < 11 := by
  induction l generalizing k with
  | nil => cases h
  | cons s r ih =>
    unfold stmtsE at h
    cases he : stmtE P s with
    | none => rw [he] at h; exact ih (k + 1) h
    | some e => rw [he] at h; cases h; exact stmtE_lt he
theorem checkE_lt {P : ProgD} {x : Nat × Int} (h : checkE P = some x) : x.1 < 11 := by
  unfold checkE at h
  split at h
  · cases h; decide
  · cases hn : namesE P.vars (fnames P) with
    | some e => rw [hn] at h; cases h; exact namesE_lt hn
    | none =>
      rw [hn] at h
      cases hf : funsE P with
      | some e => rw [hf] at h; cases h; exact funsE_lt hf
      | none => rw [hf] at h; exact stmtsE_lt _ _ h

set_option maxHeartbeats 2000000 in
theorem faulted_any (a : Nat → Addr) (e : ErrD) (v : Value) (c n : Int) (w : World) (hE : Errs w a) (hv : ErrV w a e v) (hl : ∀ x, e = some x → x.1 < 11) (hc : c = codeE e) (hn : n = placeE e) :
    Calls Tryz.prog 27 #[v, .agg #[.int .i64 c, .int .i64 n]] w fun r w' => r = .returned (.bool true) ∧ Below w.heap.size w w' := by
  have HE : Hid (Errs w a) := hE
  rcases hv with ⟨rfl, rfl⟩ | ⟨i, rfl, rfl⟩ | ⟨i, m, b, o, rfl, hm0, rfl, h1, h2⟩
  · subst hc hn
    clear hE hl
    unfold codeE placeE
    go_enter Tryz.func27, Tryz.ntmps27
    go_wp2_with (go_at_call 48; refine (code_nil _).mono ?_; rintro e w' ⟨rfl, rfl⟩)
    go_ret
    exact ⟨rfl, below1 _ _⟩
  · have hi : i < 11 := hl (i, -1) rfl
    have hc' : c = (i : Int) + 1 := hc
    have hn' : n = -1 := hn
    obtain ⟨W, hW⟩ : ∃ W, W = w.alloc (.cells #[.int .i64 c, .int .i64 n] 47) := ⟨_, rfl⟩
    have hBW : Below w.heap.size w W := by rw [hW]; exact below1 _ _
    have HC : Hid (W.cell? ⟨w.heap.size, 0, none⟩ = some (.int .i64 c) ∧ W.cell? ⟨w.heap.size, 1, none⟩ = some (.int .i64 n)) := by
      constructor <;> rw [hW] <;> simp
    have K : Hid (Calls Tryz.prog 48 #[.iface 231 (.pointer (some (a i)))] W fun e w' => e = .returned (.tuple #[.int .i64 c, .int .i64 n]) ∧ Below W.heap.size W w') := by
      rw [hc', hn']; exact code_err a i W hi (HE.out.below hBW)
    have hcp : ¬ c = 0 := by omega
    rw [hW] at K
    clear hc hn hc' hn' hl hE
    go_enter Tryz.func27, Tryz.ntmps27
    go_wp2_with fail
    refine K.out.mono ?_
    rintro e w' ⟨rfl, hb⟩
    rw [← hW] at hb
    have k0 := cell_keep hb HC.out.1
    have k1 := cell_keep hb HC.out.2
    have hcb : (c == 0) = false := beq_eq_false_iff_ne.2 hcp
    clear K hW
    go_wp2_with fail
    go_ret
    exact ⟨rfl, hBW.trans (hb.mono hBW.size)⟩
  · have hi : i < 11 := hl (i, m) rfl
    have hc' : c = (i : Int) + 1 := hc
    have hn' : n = m := hn
    obtain ⟨W, hW⟩ : ∃ W, W = w.alloc (.cells #[.int .i64 c, .int .i64 n] 47) := ⟨_, rfl⟩
    have hBW : Below w.heap.size w W := by rw [hW]; exact below1 _ _
    have HC : Hid (W.cell? ⟨w.heap.size, 0, none⟩ = some (.int .i64 c) ∧ W.cell? ⟨w.heap.size, 1, none⟩ = some (.int .i64 n)) := by
      constructor <;> rw [hW] <;> simp
    have K : Hid (Calls Tryz.prog 48 #[.iface 88 (.pointer (some ⟨b, o, none⟩))] W fun e w' => e = .returned (.tuple #[.int .i64 c, .int .i64 n]) ∧ Below W.heap.size W w') := by
      rw [hc', hn']; exact code_fault a i b o m W hi (cell_keep hBW h1) (cell_keep hBW h2) (HE.out.below hBW)
    have hcp : ¬ c = 0 := by omega
    rw [hW] at K
    clear hc hn hc' hn' hl hE h1 h2 hm0
    go_enter Tryz.func27, Tryz.ntmps27
    go_wp2_with fail
    refine K.out.mono ?_
    rintro e w' ⟨rfl, hb⟩
    rw [← hW] at hb
    have k0 := cell_keep hb HC.out.1
    have k1 := cell_keep hb HC.out.2
    have hcb : (c == 0) = false := beq_eq_false_iff_ne.2 hcp
    clear K hW
    go_wp2_with fail
    go_ret
    exact ⟨rfl, hBW.trans (hb.mono hBW.size)⟩
end Go.Proofs.YtakmmpbkojhmhaaGreatDoor

/-
  The document's NodesOf and PlaceOf, by contracts.
-/
namespace Go.Proofs.YtakmmpbkojhmhaaGreatDoor
open Go.RowKit Go.Extern.Stop Go.Stop Go.Extern

set_option maxRecDepth 100000 in
set_option maxHeartbeats 4000000 in
theorem refNodes_any (P : ProgD) (v1 v2 v3 : Value) (w : World) (hs : SmallP P) (h : IsProg w v1 v2 v3 P) :
    Calls Tryz.prog 34 #[.agg #[v1, v2, v3]] w fun e w' => e = .returned (.int .i64 ((places P P.stmts.length : Nat) : Int)) ∧ Below w.heap.size w w' := by
  have H : Hid (IsProg w v1 v2 v3 P) := h
  obtain ⟨⟨a1, c1, rfl, -, -⟩, ⟨a2, c2, rfl, -, -⟩, ⟨a3, c3, rfl, -, -⟩⟩ := h
  obtain ⟨n1, hn1⟩ : ∃ m, m = P.vars.length := ⟨_, rfl⟩
  obtain ⟨n2, hn2⟩ : ∃ m, m = P.funs.length := ⟨_, rfl⟩
  obtain ⟨n3, hn3⟩ : ∃ m, m = P.stmts.length := ⟨_, rfl⟩
  have HN : Hid (n1 = P.vars.length ∧ n2 = P.funs.length ∧ n3 = P.stmts.length) := ⟨hn1, hn2, hn3⟩
  have hs1 : n1 ≤ 100000 := by rw [hn1]; exact hs.1
  have hs3 : n3 ≤ 100000 := by rw [hn3]; exact hs.2.2.1
  rw [← hn3]
  rw [← hn1, ← hn2, ← hn3] at H
  rw [← hn1, ← hn2]
  have HPL : Hid (∀ k, places P k ≤ n1 + k) := fun k => by rw [hn1]; exact places_le P k
  obtain ⟨W, hW⟩ : ∃ W, W = w.alloc (.cells #[.slice a1 n1 c1, .slice a2 n2 c2, .slice a3 n3 c3] 43) := ⟨_, rfl⟩
  have hBW : Below w.heap.size w W := by rw [hW]; exact below1 w _
  have hX : Box3 W w.heap.size (.slice a1 n1 c1) (.slice a2 n2 c2) (.slice a3 n3 c3) := by rw [hW]; exact box3_new w _ _ _ _
  have HP : Hid (IsProg W (.slice a1 n1 c1) (.slice a2 n2 c2) (.slice a3 n3 c3) P) := H.out.below hBW
  obtain ⟨p0, p1, p2⟩ := hX
  clear hn1 hn2 hn3 hs
  go_enter Tryz.func34, Tryz.ntmps34
  go_wp2_with fail
  rw [← hW]
  clear hW
  go_loopw [3, 4] (fun t u wr => ∃ k : Nat, k ≤ n3 ∧ t = .int .i64 ((places P k : Nat) : Int) ∧ u = .int .i64 k ∧ wr = W) (fun _ u _ => (n3 - intOf u).toNat)
  case atStart => exact ⟨0, Nat.zero_le _, by rw [HN.out.1]; simp [places], rfl, rfl⟩
  case round =>
    obtain ⟨k, hk, rfl, rfl, hwr⟩ := hrel
    obtain rfl := hwr.symm
    clear hwr
    obtain ⟨N, hNN⟩ : ∃ N, N = places P k := ⟨_, rfl⟩
    have hNb : N ≤ n1 + k := by rw [hNN]; exact HPL.out k
    rw [← hNN]
    by_cases hlt : k < n3
    · have hl : k < P.stmts.length := by rw [← HN.out.2.2]; exact hlt
      obtain ⟨_, _, hv, _, hst⟩ := HP.out.stmts
      obtain ⟨b, o, ha, ⟨pv, r0, -, -, -, -⟩⟩ := hst k hl
      obtain rfl : a3 = some ⟨b, o, none⟩ := by rw [← ha]; exact (Value.slice.inj hv).1
      obtain ⟨z, hz⟩ : ∃ z, z = P.stmts.getD k default := ⟨_, rfl⟩
      obtain ⟨bk, hbk⟩ : ∃ b, b = S z.kind := ⟨_, rfl⟩
      rw [← hz, ← hbk] at r0
      have hsucc := places_succ P k hl
      rw [← hz, ← hNN] at hsucc
      by_cases hkn : z.kind = kNew
      · have hkl : bk.toList = [110, 101, 119] := by rw [hbk, S_toList, hkn]; rfl
        have HSU : Hid (places P (k + 1) = N + 1) := by show places P (k + 1) = N + 1; rw [hsucc, hkn]; rfl
        clear hv hst ha hl hz hbk hsucc hkn hNN
        go_wp2_with fail
        go_roundw
        case rel => exact ⟨k + 1, hlt, by rw [HSU.out]; go_num, by go_num, trivial⟩
        case measure => simp [intOf]; omega
      · have hkl : (bk.toList == [110, 101, 119]) = false := beq_eq_false_iff_ne.2 (fun q => hkn (by rw [hbk, S_toList] at q; exact q))
        have HSU : Hid (places P (k + 1) = N) := by show places P (k + 1) = N; rw [hsucc, if_neg (by simpa using hkn)]; rfl
        clear hv hst ha hl hz hbk hsucc hkn hNN
        go_wp2_with fail
        go_roundw
        case rel => exact ⟨k + 1, hlt, by rw [HSU.out], by go_num, trivial⟩
        case measure => simp [intOf]; omega
    · have HF : Hid (N = places P n3) := by show N = _; rw [hNN, show k = n3 by omega]
      clear hNN
      go_wp2_with fail
      go_ret
      exact ⟨by rw [← HF.out]; rfl, hBW⟩

set_option maxRecDepth 100000 in
set_option maxHeartbeats 4000000 in
theorem refPlace_any (P : ProgD) (q : Int) (v1 v2 v3 : Value) (w : World) (hs : SmallP P) (h : IsProg w v1 v2 v3 P) (hc : checkE P = none) :
    Calls Tryz.prog 37 #[.agg #[v1, v2, v3], .int .i64 q] w fun e w' => e = .returned (.int .i64 (placeD P q)) ∧ Below w.heap.size w w' := by
  have H : Hid (IsProg w v1 v2 v3 P) := h
  have HTR : Hid (true = (checkE P).isNone) := by show true = _; rw [hc]; rfl
  obtain ⟨⟨a1, c1, rfl, -, -⟩, ⟨a2, c2, rfl, -, -⟩, ⟨a3, c3, rfl, -, -⟩⟩ := h
  obtain ⟨n1, hn1⟩ : ∃ m, m = P.vars.length := ⟨_, rfl⟩
  obtain ⟨n2, hn2⟩ : ∃ m, m = P.funs.length := ⟨_, rfl⟩
  obtain ⟨n3, hn3⟩ : ∃ m, m = P.stmts.length := ⟨_, rfl⟩
  have HN : Hid (n1 = P.vars.length ∧ n2 = P.funs.length ∧ n3 = P.stmts.length) := ⟨hn1, hn2, hn3⟩
  have hs1 : n1 ≤ 100000 := by rw [hn1]; exact hs.1
  have hs3 : n3 ≤ 100000 := by rw [hn3]; exact hs.2.2.1
  obtain ⟨R, hR⟩ : ∃ R, R = placeD P q := ⟨_, rfl⟩
  have HR : Hid (R = placeD P q) := hR
  rw [← hR]
  rw [← hn1, ← hn2, ← hn3] at H ⊢
  have HPL : Hid (∀ k, places P k ≤ n1 + k) := fun k => by rw [hn1]; exact places_le P k
  obtain ⟨W, hW⟩ : ∃ W, W = w.alloc (.cells #[.slice a1 n1 c1, .slice a2 n2 c2, .slice a3 n3 c3] 43) := ⟨_, rfl⟩
  have hBW : Below w.heap.size w W := by rw [hW]; exact below1 w _
  have hX : Box3 W w.heap.size (.slice a1 n1 c1) (.slice a2 n2 c2) (.slice a3 n3 c3) := by rw [hW]; exact box3_new w _ _ _ _
  have HP : Hid (IsProg W (.slice a1 n1 c1) (.slice a2 n2 c2) (.slice a3 n3 c3) P) := H.out.below hBW
  obtain ⟨p0, p1, p2⟩ := hX
  clear hn1 hn2 hn3 hs hR hc
  go_enter Tryz.func37, Tryz.ntmps37
  go_upto_region 1 with fail
  rw [← hW]
  clear hW
  by_cases g0 : q < 0
  · have hb : Hid (R = -1) := by show R = -1; rw [HR.out]; exact placeD_out HTR.out (fun x => by omega)
    go_wp2_with fail
    go_ret
    exact ⟨by rw [hb.out]; rfl, hBW⟩
  by_cases g1 : (n3 : Int) ≤ q
  · have hb : Hid (R = -1) := by show R = -1; rw [HR.out]; exact placeD_out HTR.out (fun x => by have := HN.out; omega)
    go_wp2_with fail
    go_ret
    exact ⟨by rw [hb.out]; rfl, hBW⟩
  obtain ⟨m, rfl⟩ : ∃ m : Nat, q = (m : Int) := ⟨q.toNat, by omega⟩
  have hlt : m < n3 := by omega
  have hl : m < P.stmts.length := by rw [← HN.out.2.2]; exact hlt
  obtain ⟨_, _, hv, _, hst⟩ := HP.out.stmts
  obtain ⟨b, o, ha, ⟨pv, r0, -, -, -, -⟩⟩ := hst m hl
  obtain rfl : a3 = some ⟨b, o, none⟩ := by rw [← ha]; exact (Value.slice.inj hv).1
  obtain ⟨z, hz⟩ : ∃ z, z = P.stmts.getD m default := ⟨_, rfl⟩
  obtain ⟨bk, hbk⟩ : ∃ b, b = S z.kind := ⟨_, rfl⟩
  rw [← hz, ← hbk] at r0
  by_cases hkn : z.kind = kNew
  rotate_left
  · have hb : Hid (R = -1) := by
      show R = -1
      rw [HR.out]
      exact placeD_out HTR.out (fun x => hkn (by have := x.2.2; rw [Int.toNat_natCast, ← hz] at this; exact this))
    have hkl : (bk.toList == [110, 101, 119]) = false := beq_eq_false_iff_ne.2 (fun q => hkn (by rw [hbk, S_toList] at q; exact q))
    clear hv hst ha hl hz hbk hkn
    go_wp2_with fail
    go_ret
    exact ⟨by rw [hb.out]; rfl, hBW⟩
  have hb : Hid (R = ((places P m : Nat) : Int)) := by
    show R = _
    rw [HR.out, placeD_in HTR.out ⟨by omega, by have := HN.out; omega, by rw [Int.toNat_natCast, ← hz]; exact hkn⟩]; rfl
  have hkl : bk.toList = [110, 101, 119] := by rw [hbk, S_toList, hkn]; rfl
  clear hv hst ha hl hz hbk hkn g0 g1
  go_wp2_with fail
  clear r0 hkl p0 p1
  go_loopw [5, 6] (fun t u wr => ∃ k : Nat, k ≤ m ∧ t = .int .i64 ((places P k : Nat) : Int) ∧ u = .int .i64 k ∧ wr = W) (fun _ u _ => (m - intOf u).toNat)
  case atStart => exact ⟨0, Nat.zero_le _, by rw [HN.out.1]; simp [places], rfl, rfl⟩
  case round =>
    obtain ⟨k, hk, rfl, rfl, hwr⟩ := hrel
    obtain rfl := hwr.symm
    clear hwr
    obtain ⟨N, hNN⟩ : ∃ N, N = places P k := ⟨_, rfl⟩
    have hNb : N ≤ n1 + k := by rw [hNN]; exact HPL.out k
    rw [← hNN]
    by_cases hkm : k < m
    · have hl : k < P.stmts.length := by rw [← HN.out.2.2]; omega
      obtain ⟨_, _, hv, _, hst⟩ := HP.out.stmts
      obtain ⟨b', o', ha, ⟨pv, r0, -, -, -, -⟩⟩ := hst k hl
      obtain ⟨rfl, rfl⟩ : b' = b ∧ o' = o := by
        have := (Value.slice.inj hv).1.trans ha
        cases this
        exact ⟨rfl, rfl⟩
      obtain ⟨z, hz⟩ : ∃ z, z = P.stmts.getD k default := ⟨_, rfl⟩
      obtain ⟨bk, hbk⟩ : ∃ b, b = S z.kind := ⟨_, rfl⟩
      rw [← hz, ← hbk] at r0
      have hsucc := places_succ P k hl
      rw [← hz, ← hNN] at hsucc
      have hkn3 : (k : Int) < (n3 : Int) := by omega
      by_cases hkn : z.kind = kNew
      · have hkl : bk.toList = [110, 101, 119] := by rw [hbk, S_toList, hkn]; rfl
        have HSU : Hid (places P (k + 1) = N + 1) := by show places P (k + 1) = N + 1; rw [hsucc, hkn]; rfl
        clear hv hst ha hl hz hbk hsucc hkn hNN
        go_wp2_with fail
        go_roundw
        case rel => exact ⟨k + 1, hkm, by rw [HSU.out]; go_num, by go_num, trivial⟩
        case measure => simp [intOf]; omega
      · have hkl : (bk.toList == [110, 101, 119]) = false := beq_eq_false_iff_ne.2 (fun q => hkn (by rw [hbk, S_toList] at q; exact q))
        have HSU : Hid (places P (k + 1) = N) := by show places P (k + 1) = N; rw [hsucc, if_neg (by simpa using hkn)]; rfl
        clear hv hst ha hl hz hbk hsucc hkn hNN
        go_wp2_with fail
        go_roundw
        case rel => exact ⟨k + 1, hkm, by rw [HSU.out], by go_num, trivial⟩
        case measure => simp [intOf]; omega
    · have HF : Hid (R = (N : Int)) := by show R = _; rw [hb.out, hNN, show k = m by omega]
      clear hNN
      go_wp2_with fail
      go_ret
      exact ⟨by rw [HF.out]; rfl, hBW⟩
end Go.Proofs.YtakmmpbkojhmhaaGreatDoor

/-
  The document's FunOf, by a contract.
-/
namespace Go.Proofs.YtakmmpbkojhmhaaGreatDoor
open Go.RowKit Go.Extern.Stop Go.Stop Go.Extern

set_option maxRecDepth 100000 in
set_option maxHeartbeats 4000000 in
theorem refFun_any (P : ProgD) (q : Int) (v1 v2 v3 : Value) (w : World) (hs : SmallP P) (h : IsProg w v1 v2 v3 P) (hc : checkE P = none) (hq : -9223372036854775808 ≤ q) (hq2 : q ≤ 9223372036854775807) :
    Calls Tryz.prog 36 #[.agg #[v1, v2, v3], .int .i64 q] w fun e w' => e = .returned (.int .i64 (funD P q)) ∧ Below w.heap.size w w' := by
  have H : Hid (IsProg w v1 v2 v3 P) := h
  have HS : Hid (SmallP P) := hs
  have HTR : Hid (true = (checkE P).isNone) := by show true = _; rw [hc]; rfl
  obtain ⟨⟨a1, c1, rfl, -, -⟩, ⟨a2, c2, rfl, -, -⟩, ⟨a3, c3, rfl, -, -⟩⟩ := h
  obtain ⟨n1, hn1⟩ : ∃ m, m = P.vars.length := ⟨_, rfl⟩
  obtain ⟨n2, hn2⟩ : ∃ m, m = P.funs.length := ⟨_, rfl⟩
  obtain ⟨n3, hn3⟩ : ∃ m, m = P.stmts.length := ⟨_, rfl⟩
  obtain ⟨N, hN⟩ : ∃ m, m = places P P.stmts.length := ⟨_, rfl⟩
  have hNb : N ≤ 200000 := by
    have := places_le P P.stmts.length
    have h1 := hs.1
    have h3 := hs.2.2.1
    omega
  have hs2 : n2 ≤ 100000 := by rw [hn2]; exact hs.2.1
  have HO : Hid ((q < (N : Int) ∨ (N : Int) + (n2 : Int) ≤ q) → funD P q = -1) := fun g => funD_out HTR.out (by rw [← hN, ← hn2]; exact g)
  have HI : Hid (¬ (q < (N : Int) ∨ (N : Int) + (n2 : Int) ≤ q) → funD P q = q - (N : Int)) := fun g => by
    rw [funD_in HTR.out (by rw [← hN, ← hn2]; exact g), ← hN]
  obtain ⟨R, hR⟩ : ∃ R, R = funD P q := ⟨_, rfl⟩
  rw [← hR] at HO HI ⊢
  rw [← hn1, ← hn2, ← hn3] at H ⊢
  obtain ⟨W, hW⟩ : ∃ W, W = w.alloc (.cells #[.slice a1 n1 c1, .slice a2 n2 c2, .slice a3 n3 c3] 43) := ⟨_, rfl⟩
  have hBW : Below w.heap.size w W := by rw [hW]; exact below1 w _
  have hX : Box3 W w.heap.size (.slice a1 n1 c1) (.slice a2 n2 c2) (.slice a3 n3 c3) := by rw [hW]; exact box3_new w _ _ _ _
  have K : Hid (Calls Tryz.prog 34 #[.agg #[.slice a1 n1 c1, .slice a2 n2 c2, .slice a3 n3 c3]] W fun e w' => e = .returned (.int .i64 (N : Int)) ∧ Below W.heap.size W w') := by
    rw [hN]; exact refNodes_any P _ _ _ W HS.out (H.out.below hBW)
  rw [hW] at K
  clear hn1 hn2 hn3 hN hs hc hR
  go_enter Tryz.func36, Tryz.ntmps36
  go_wp2_with fail
  refine K.out.mono ?_
  rintro e w1 ⟨rfl, hB1⟩
  rw [← hW] at hB1
  have hBF := hBW.trans (hB1.mono hBW.size)
  obtain ⟨p0, p1, p2⟩ := hX.below hB1
  clear K hX hW
  by_cases g0 : q < 0
  · have hb : Hid (R = -1) := HO.out (Or.inl (by omega))
    clear HO HI
    go_wp2_with fail
    go_ret
    exact ⟨by rw [hb.out]; rfl, hBF⟩
  obtain ⟨d, hd⟩ : ∃ d, d = q - (N : Int) := ⟨_, rfl⟩
  by_cases g1 : q - (N : Int) < 0
  · have hb : Hid (R = -1) := HO.out (Or.inl (by omega))
    clear HO HI hd
    go_wp2_with fail
    go_ret
    exact ⟨by rw [hb.out]; rfl, hBF⟩
  by_cases g2 : (n2 : Int) ≤ q - (N : Int)
  · have hb : Hid (R = -1) := HO.out (Or.inr (by omega))
    clear HO HI hd
    go_wp2_with fail
    go_ret
    exact ⟨by rw [hb.out]; rfl, hBF⟩
  · have hb : Hid (R = q - (N : Int)) := HI.out (by omega)
    clear HO HI hd
    go_wp2_with fail
    go_ret
    exact ⟨by rw [hb.out]; rfl, hBF⟩
end Go.Proofs.YtakmmpbkojhmhaaGreatDoor

/-
  The document's namesOf, by a contract.
-/
namespace Go.Proofs.YtakmmpbkojhmhaaGreatDoor
open Go.RowKit Go.Extern.Stop Go.Stop Go.Extern

theorem joinTail_snoc (s : Bs) (r : List Bs) (x : Bs) : Lib.joinTail s (r ++ [x]) = Lib.joinTail s r ++ s ++ x := by
  unfold Lib.joinTail
  simp [List.append_assoc]
theorem joinTail_len (s : Bs) (r : List Bs) (n : Nat) (h : ∀ x ∈ r, x.length ≤ n) : (Lib.joinTail s r).length ≤ r.length * (n + s.length) := by
  induction r with
  | nil => simp [Lib.joinTail]
  | cons a r ih =>
    have ha := h a (List.mem_cons_self ..)
    have hr := ih (fun x hx => h x (List.mem_cons_of_mem _ hx))
    unfold Lib.joinTail at hr ⊢
    simp only [List.map_cons, List.flatten_cons, List.length_append, List.length_cons]
    rw [Nat.add_mul, Nat.one_mul]
    omega
theorem join_snoc (l : List Bs) (x s : Bs) (h : l ≠ []) : Lib.join (l ++ [x]) s = Lib.join l s ++ s ++ x := by
  cases l with
  | nil => exact absurd rfl h
  | cons a r => rw [List.cons_append, Lib.join_cons, Lib.join_cons, joinTail_snoc]; simp [List.append_assoc]
theorem join_len (l : List Bs) (s : Bs) (n : Nat) (h : ∀ x ∈ l, x.length ≤ n) : (Lib.join l s).length ≤ l.length * (n + s.length) := by
  cases l with
  | nil => simp [Lib.join_nil]
  | cons a r =>
    have ha := h a (List.mem_cons_self ..)
    have hr := joinTail_len s r n (fun x hx => h x (List.mem_cons_of_mem _ hx))
    rw [Lib.join_cons, List.length_append, List.length_cons, Nat.add_mul, Nat.one_mul]
    omega
def joined (P : ProgD) (zs : List Int) (k : Nat) : Bs := Lib.join ((zs.take k).map (nameOf P)) sep

set_option maxRecDepth 100000 in
set_option maxHeartbeats 4000000 in
theorem refNames_any (P : ProgD) (zs : List Int) (v v1 v2 v3 : Value) (w : World) (hm : zs.length ≤ 100000) (hv8 : ∀ x ∈ P.vars, x.length ≤ 1000) (hr : ∀ z ∈ zs, 0 ≤ z ∧ z < (P.vars.length : Int)) (h : IsProg w v1 v2 v3 P) (hz : IsInts w v zs) :
    Calls Tryz.prog 76 #[.agg #[v1, v2, v3], v] w fun e w' => e = .returned (.string (S (Lib.join (zs.map (nameOf P)) sep))) ∧ Below w.heap.size w w' := by
  obtain ⟨a, c, rfl⟩ := isInts_form hz
  have H : Hid (IsProg w v1 v2 v3 P) := h
  obtain ⟨W, hW⟩ : ∃ W, W = w.alloc (.cells #[v1, v2, v3] 43) := ⟨_, rfl⟩
  have hBW : Below w.heap.size w W := by rw [hW]; exact below1 w _
  have HC : Hid (∀ j, j < zs.length → ∃ b o, a = some ⟨b, o, none⟩ ∧ W.cell? ⟨b, o + j, none⟩ = some (.int .i64 (zs.getD j 0))) := fun j hj => by
    obtain ⟨b, o, h1, h2⟩ := isInts_at hz j hj
    exact ⟨b, o, h1, cell_keep hBW h2⟩
  have HX : Hid (Box3 W w.heap.size v1 v2 v3) := by
    show Box3 W _ _ _ _
    rw [hW]; exact box3_new w _ _ _ _
  have HRG : Hid (∀ z ∈ zs, 0 ≤ z ∧ z < (P.vars.length : Int)) := hr
  have HLEN : Hid (∀ k, (joined P zs k).length ≤ 100000 * 1002) := fun k => by
    have h1 := join_len ((zs.take k).map (nameOf P)) sep 1000 (fun x hx => by
      obtain ⟨z, _, rfl⟩ := List.mem_map.1 hx
      unfold nameOf
      by_cases hi : z.toNat < P.vars.length
      · have : P.vars.getD z.toNat [] = P.vars[z.toNat] := by simp [List.getD, hi]
        rw [this]; exact hv8 _ (List.getElem_mem hi)
      · simp [List.getD, List.getElem?_eq_none (Nat.le_of_not_lt hi)])
    have h2 : ((zs.take k).map (nameOf P)).length ≤ 100000 := by rw [List.length_map, List.length_take]; omega
    have h3 : ((zs.take k).map (nameOf P)).length * (1000 + sep.length) ≤ 100000 * 1002 := Nat.mul_le_mul h2 (by decide)
    unfold joined; omega
  have HNL : Hid (∀ i, (P.vars.getD i []).length ≤ 1000) := fun i => by
    by_cases hi : i < P.vars.length
    · have : P.vars.getD i [] = P.vars[i] := by simp [List.getD, hi]
      rw [this]; exact hv8 _ (List.getElem_mem hi)
    · simp [List.getD, List.getElem?_eq_none (Nat.le_of_not_lt hi)]
  obtain ⟨⟨a1, c1, rfl, -, -⟩, ⟨a2, c2, rfl, -, -⟩, ⟨a3, c3, rfl, -, -⟩⟩ := h
  have HF : Hid (Lib.join (zs.map (nameOf P)) sep = joined P zs zs.length) := by
    show _ = joined P zs zs.length
    unfold joined; rw [List.take_length]
  rw [HF.out]
  obtain ⟨m1, hm1⟩ : ∃ m, m = P.vars.length := ⟨_, rfl⟩
  obtain ⟨m2, hm2⟩ : ∃ m, m = P.funs.length := ⟨_, rfl⟩
  obtain ⟨m3, hm3⟩ : ∃ m, m = P.stmts.length := ⟨_, rfl⟩
  obtain ⟨n, hn⟩ : ∃ n, n = zs.length := ⟨_, rfl⟩
  have HN : Hid (n = zs.length ∧ m1 = P.vars.length) := ⟨hn, hm1⟩
  rw [← hn] at hm ⊢
  rw [← hm1, ← hm2, ← hm3] at H HX hW ⊢
  clear hz hn hm1 hm2 hm3 hr hv8
  go_enter Tryz.func76, Tryz.ntmps76
  go_wp2_with fail
  rw [← hW]
  clear hW
  go_loopw [5, 6] (fun t u wr => ∃ k : Nat, k ≤ n ∧ t = .string (S (joined P zs k)) ∧ u = .int .i64 k ∧ Below W.heap.size W wr) (fun _ u _ => (n - intOf u).toNat)
  case atStart => exact ⟨0, Nat.zero_le _, rfl, rfl, Below.refl _ _⟩
  case round =>
    obtain ⟨k, hk, rfl, rfl, hB⟩ := hrel
    obtain ⟨U, hU⟩ : ∃ U, U = S (joined P zs k) := ⟨_, rfl⟩
    have hUs : U.size ≤ 100200000 := by rw [hU, S_size]; exact HLEN.out k
    rw [← hU]
    by_cases hlt : k < n
    · have hl : k < zs.length := by rw [← HN.out.1]; exact hlt
      obtain ⟨b, o, rfl, e0⟩ := HC.out k hl
      obtain ⟨y, hy⟩ : ∃ y, y = zs.getD k 0 := ⟨_, rfl⟩
      have hyr := HRG.out y (by rw [hy]; simp [List.getD, hl])
      rw [← hy] at e0
      obtain ⟨i, rfl⟩ : ∃ i : Nat, y = (i : Int) := ⟨y.toNat, by omega⟩
      have hil : i < P.vars.length := by omega
      obtain ⟨_, _, hv, _, hst⟩ := ((H.out.below hBW).below hB).vars
      obtain ⟨b1, o1, ha1, e1⟩ := hst i hil
      obtain rfl : a1 = some ⟨b1, o1, none⟩ := by rw [← ha1]; exact (Value.slice.inj hv).1
      obtain ⟨z, hz⟩ : ∃ z, z = P.vars.getD i [] := ⟨_, rfl⟩
      obtain ⟨bz, hbz⟩ : ∃ b, b = S z := ⟨_, rfl⟩
      rw [← hz, ← hbz] at e1
      have hbs : bz.size ≤ 1000 := by rw [hbz, S_size, hz]; exact HNL.out i
      have hnm : nameOf P ((i : Nat) : Int) = z := by unfold nameOf; rw [hz]; rfl
      have htk : (zs.take (k + 1)).map (nameOf P) = (zs.take k).map (nameOf P) ++ [z] := by
        have : zs.take (k + 1) = zs.take k ++ [zs.getD k 0] := by rw [List.take_add_one]; simp [List.getD, hl]
        rw [this, ← hy, List.map_append, List.map_singleton, hnm]
      obtain ⟨p0, p1, p2⟩ := HX.out.below hB
      have e0' := cell_keep hB e0
      have hi0 : (i : Int) < (m1 : Int) := by have := HN.out.2; omega
      have him : i < m1 := by omega
      have s1 : ¬ 9223372036854775807 < U.size + bz.size := by omega
      have s2 : ¬ 9223372036854775807 < U.size + 2 := by omega
      have s3 : ¬ 9223372036854775807 < U.size + 2 + bz.size := by omega
      by_cases hk0 : k = 0
      · subst hk0
        have HJ : Hid (U ++ bz = S (joined P zs 1)) := by
          show U ++ bz = S (joined P zs 1)
          rw [hU, hbz, S_append]
          unfold joined
          rw [htk]
          simp [Lib.join_nil, Lib.join_one]
        clear hl hy hyr hil hv hst ha1 hz hbz hnm htk hU e0 s2 s3
        have e00 : wr.cell? ⟨b, o, none⟩ = some (.int .i64 (i : Int)) := e0'
        have hn0 : (0 : Int) < (n : Int) := by omega
        go_wp2_with fail
        go_quiet (fail)
        go_wp2_with fail
        go_roundw
        case rel => exact ⟨1, hlt, by rw [← HJ.out], by go_num, below_drewN hB _⟩
        case measure => simp [intOf]; omega
      · have hkp : 0 < (k : Int) := by omega
        have HJ : Hid (U ++ ⟨#[44, 32]⟩ ++ bz = S (joined P zs (k + 1))) := by
          show U ++ S [44, 32] ++ bz = S (joined P zs (k + 1))
          rw [hU, hbz, S_append, S_append]
          unfold joined
          rw [htk, join_snoc _ _ _ (by
            intro q
            have := congrArg List.length q
            simp at this
            rcases this with h1 | h1
            · exact hk0 h1
            · rw [h1] at hl; simp at hl)]
          rfl
        clear hl hy hyr hil hv hst ha1 hz hbz hnm htk hU e0
        go_upto_region 7 with fail
        obtain ⟨V, hV⟩ : ∃ V, V = U ++ ⟨#[44, 32]⟩ := ⟨_, rfl⟩
        rw [← hV] at HJ ⊢
        have s4 : ¬ 9223372036854775807 < V.size + bz.size := by
          have : V.size = U.size + 2 := by rw [hV]; simp [ByteArray.size_append]; rfl
          omega
        clear hV s1 s2 s3
        go_quiet (fail)
        go_wp2_with fail
        go_roundw
        case rel => exact ⟨k + 1, hlt, by rw [← HJ.out], by go_num, below_drewN hB _⟩
        case measure => simp [intOf]; omega
    · have hb : Hid (U = S (joined P zs n)) := by show U = _; rw [hU, show k = n by omega]
      clear hU
      have hBF := hBW.trans (hB.mono hBW.size)
      go_wp2_with fail
      go_ret
      exact ⟨by rw [← hb.out]; rfl, hBF⟩
end Go.Proofs.YtakmmpbkojhmhaaGreatDoor

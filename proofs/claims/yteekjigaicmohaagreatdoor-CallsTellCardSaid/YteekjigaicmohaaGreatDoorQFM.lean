/-
  The document's NodesOf and PlaceOf, by contracts.
-/
import Derived.Test.YteekjigaicmohaaGreatDoorPJM
namespace Go.Proofs.YteekjigaicmohaaGreatDoor
open Go.RowKit Go.Extern.Stop Go.Stop Go.Extern

set_option maxRecDepth 100000 in
set_option maxHeartbeats 4000000 in
theorem refNodes_any (P : ProgD) (v1 v2 v3 : Value) (w : World) (hs : SmallP P) (h : IsProg w v1 v2 v3 P) :
    Calls Tryz.prog 63 #[.agg #[v1, v2, v3]] w fun e w' => e = .returned (.int .i64 ((places P P.stmts.length : Nat) : Int)) ∧ Below w.heap.size w w' := by
  have H : Hid (IsProg w v1 v2 v3 P) := h
  obtain ⟨⟨a1, c1, rfl, -, -⟩, ⟨a2, c2, rfl, -, -⟩, ⟨a3, c3, rfl, -, -⟩⟩ := h
  obtain ⟨n1, hn1⟩ : ∃ m, m = P.vars.length := ⟨_, rfl⟩
  obtain ⟨n2, hn2⟩ : ∃ m, m = P.funs.length := ⟨_, rfl⟩
  obtain ⟨n3, hn3⟩ : ∃ m, m = P.stmts.length := ⟨_, rfl⟩
  have HN : Hid (n1 = P.vars.length ∧ n2 = P.funs.length ∧ n3 = P.stmts.length) := ⟨hn1, hn2, hn3⟩
  have hs1 : n1 ≤ 100000 := by rw [hn1]; exact hs.1
  have hs3 : n3 ≤ 100000 := by rw [hn3]; exact hs.2.2.1
  rw [← hn3]
  rw [← hn1, ← hn2, ← hn3] at H
  rw [← hn1, ← hn2]
  have HPL : Hid (∀ k, places P k ≤ n1 + k) := fun k => by rw [hn1]; exact places_le P k
  obtain ⟨W, hW⟩ : ∃ W, W = w.alloc (.cells #[.slice a1 n1 c1, .slice a2 n2 c2, .slice a3 n3 c3] 26) := ⟨_, rfl⟩
  have hBW : Below w.heap.size w W := by rw [hW]; exact below1 w _
  have hX : Box3 W w.heap.size (.slice a1 n1 c1) (.slice a2 n2 c2) (.slice a3 n3 c3) := by rw [hW]; exact box3_new w _ _ _ _
  have HP : Hid (IsProg W (.slice a1 n1 c1) (.slice a2 n2 c2) (.slice a3 n3 c3) P) := H.out.below hBW
  obtain ⟨p0, p1, p2⟩ := hX
  clear hn1 hn2 hn3 hs
  go_enter Tryz.func63, Tryz.ntmps63
  go_wp2_with fail
  rw [← hW]
  clear hW
  go_loopw [3, 4] (fun t u wr => ∃ k : Nat, k ≤ n3 ∧ t = .int .i64 ((places P k : Nat) : Int) ∧ u = .int .i64 k ∧ wr = W) (fun _ u _ => (n3 - intOf u).toNat)
  case atStart => exact ⟨0, Nat.zero_le _, by rw [HN.out.1]; simp [places], rfl, rfl⟩
  case round =>
    obtain ⟨k, hk, rfl, rfl, hwr⟩ := hrel
    obtain rfl := hwr.symm
    clear hwr
    obtain ⟨N, hNN⟩ : ∃ N, N = places P k := ⟨_, rfl⟩
    have hNb : N ≤ n1 + k := by rw [hNN]; exact HPL.out k
    rw [← hNN]
    by_cases hlt : k < n3
    · have hl : k < P.stmts.length := by rw [← HN.out.2.2]; exact hlt
      obtain ⟨_, _, hv, _, hst⟩ := HP.out.stmts
      obtain ⟨b, o, ha, ⟨pv, r0, -, -, -, -⟩⟩ := hst k hl
      obtain rfl : a3 = some ⟨b, o, none⟩ := by rw [← ha]; exact (Value.slice.inj hv).1
      obtain ⟨z, hz⟩ : ∃ z, z = P.stmts.getD k default := ⟨_, rfl⟩
      obtain ⟨bk, hbk⟩ : ∃ b, b = S z.kind := ⟨_, rfl⟩
      rw [← hz, ← hbk] at r0
      have hsucc := places_succ P k hl
      rw [← hz, ← hNN] at hsucc
      by_cases hkn : z.kind = kNew
      · have hkl : bk.toList = [110, 101, 119] := by rw [hbk, S_toList, hkn]; rfl
        have HSU : Hid (places P (k + 1) = N + 1) := by show places P (k + 1) = N + 1; rw [hsucc, hkn]; rfl
        clear hv hst ha hl hz hbk hsucc hkn hNN
        go_wp2_with fail
        go_roundw
        case rel => exact ⟨k + 1, hlt, by rw [HSU.out]; go_num, by go_num, trivial⟩
        case measure => simp [intOf]; omega
      · have hkl : (bk.toList == [110, 101, 119]) = false := beq_eq_false_iff_ne.2 (fun q => hkn (by rw [hbk, S_toList] at q; exact q))
        have HSU : Hid (places P (k + 1) = N) := by show places P (k + 1) = N; rw [hsucc, if_neg (by simpa using hkn)]; rfl
        clear hv hst ha hl hz hbk hsucc hkn hNN
        go_wp2_with fail
        go_roundw
        case rel => exact ⟨k + 1, hlt, by rw [HSU.out], by go_num, trivial⟩
        case measure => simp [intOf]; omega
    · have HF : Hid (N = places P n3) := by show N = _; rw [hNN, show k = n3 by omega]
      clear hNN
      go_wp2_with fail
      go_ret
      exact ⟨by rw [← HF.out]; rfl, hBW⟩

set_option maxRecDepth 100000 in
set_option maxHeartbeats 4000000 in
theorem refPlace_any (P : ProgD) (q : Int) (v1 v2 v3 : Value) (w : World) (hs : SmallP P) (h : IsProg w v1 v2 v3 P) (hc : checkE P = none) :
    Calls Tryz.prog 154 #[.agg #[v1, v2, v3], .int .i64 q] w fun e w' => e = .returned (.int .i64 (placeD P q)) ∧ Below w.heap.size w w' := by
  have H : Hid (IsProg w v1 v2 v3 P) := h
  have HTR : Hid (true = (checkE P).isNone) := by show true = _; rw [hc]; rfl
  obtain ⟨⟨a1, c1, rfl, -, -⟩, ⟨a2, c2, rfl, -, -⟩, ⟨a3, c3, rfl, -, -⟩⟩ := h
  obtain ⟨n1, hn1⟩ : ∃ m, m = P.vars.length := ⟨_, rfl⟩
  obtain ⟨n2, hn2⟩ : ∃ m, m = P.funs.length := ⟨_, rfl⟩
  obtain ⟨n3, hn3⟩ : ∃ m, m = P.stmts.length := ⟨_, rfl⟩
  have HN : Hid (n1 = P.vars.length ∧ n2 = P.funs.length ∧ n3 = P.stmts.length) := ⟨hn1, hn2, hn3⟩
  have hs1 : n1 ≤ 100000 := by rw [hn1]; exact hs.1
  have hs3 : n3 ≤ 100000 := by rw [hn3]; exact hs.2.2.1
  obtain ⟨R, hR⟩ : ∃ R, R = placeD P q := ⟨_, rfl⟩
  have HR : Hid (R = placeD P q) := hR
  rw [← hR]
  rw [← hn1, ← hn2, ← hn3] at H ⊢
  have HPL : Hid (∀ k, places P k ≤ n1 + k) := fun k => by rw [hn1]; exact places_le P k
  obtain ⟨W, hW⟩ : ∃ W, W = w.alloc (.cells #[.slice a1 n1 c1, .slice a2 n2 c2, .slice a3 n3 c3] 26) := ⟨_, rfl⟩
  have hBW : Below w.heap.size w W := by rw [hW]; exact below1 w _
  have hX : Box3 W w.heap.size (.slice a1 n1 c1) (.slice a2 n2 c2) (.slice a3 n3 c3) := by rw [hW]; exact box3_new w _ _ _ _
  have HP : Hid (IsProg W (.slice a1 n1 c1) (.slice a2 n2 c2) (.slice a3 n3 c3) P) := H.out.below hBW
  obtain ⟨p0, p1, p2⟩ := hX
  clear hn1 hn2 hn3 hs hR hc
  go_enter Tryz.func154, Tryz.ntmps154
  go_upto_region 1 with fail
  rw [← hW]
  clear hW
  by_cases g0 : q < 0
  · have hb : Hid (R = -1) := by show R = -1; rw [HR.out]; exact placeD_out HTR.out (fun x => by omega)
    go_wp2_with fail
    go_ret
    exact ⟨by rw [hb.out]; rfl, hBW⟩
  by_cases g1 : (n3 : Int) ≤ q
  · have hb : Hid (R = -1) := by show R = -1; rw [HR.out]; exact placeD_out HTR.out (fun x => by have := HN.out; omega)
    go_wp2_with fail
    go_ret
    exact ⟨by rw [hb.out]; rfl, hBW⟩
  obtain ⟨m, rfl⟩ : ∃ m : Nat, q = (m : Int) := ⟨q.toNat, by omega⟩
  have hlt : m < n3 := by omega
  have hl : m < P.stmts.length := by rw [← HN.out.2.2]; exact hlt
  obtain ⟨_, _, hv, _, hst⟩ := HP.out.stmts
  obtain ⟨b, o, ha, ⟨pv, r0, -, -, -, -⟩⟩ := hst m hl
  obtain rfl : a3 = some ⟨b, o, none⟩ := by rw [← ha]; exact (Value.slice.inj hv).1
  obtain ⟨z, hz⟩ : ∃ z, z = P.stmts.getD m default := ⟨_, rfl⟩
  obtain ⟨bk, hbk⟩ : ∃ b, b = S z.kind := ⟨_, rfl⟩
  rw [← hz, ← hbk] at r0
  by_cases hkn : z.kind = kNew
  rotate_left
  · have hb : Hid (R = -1) := by
      show R = -1
      rw [HR.out]
      exact placeD_out HTR.out (fun x => hkn (by have := x.2.2; rw [Int.toNat_natCast, ← hz] at this; exact this))
    have hkl : (bk.toList == [110, 101, 119]) = false := beq_eq_false_iff_ne.2 (fun q => hkn (by rw [hbk, S_toList] at q; exact q))
    clear hv hst ha hl hz hbk hkn
    go_wp2_with fail
    go_ret
    exact ⟨by rw [hb.out]; rfl, hBW⟩
  have hb : Hid (R = ((places P m : Nat) : Int)) := by
    show R = _
    rw [HR.out, placeD_in HTR.out ⟨by omega, by have := HN.out; omega, by rw [Int.toNat_natCast, ← hz]; exact hkn⟩]; rfl
  have hkl : bk.toList = [110, 101, 119] := by rw [hbk, S_toList, hkn]; rfl
  clear hv hst ha hl hz hbk hkn g0 g1
  go_wp2_with fail
  clear r0 hkl p0 p1
  go_loopw [5, 6] (fun t u wr => ∃ k : Nat, k ≤ m ∧ t = .int .i64 ((places P k : Nat) : Int) ∧ u = .int .i64 k ∧ wr = W) (fun _ u _ => (m - intOf u).toNat)
  case atStart => exact ⟨0, Nat.zero_le _, by rw [HN.out.1]; simp [places], rfl, rfl⟩
  case round =>
    obtain ⟨k, hk, rfl, rfl, hwr⟩ := hrel
    obtain rfl := hwr.symm
    clear hwr
    obtain ⟨N, hNN⟩ : ∃ N, N = places P k := ⟨_, rfl⟩
    have hNb : N ≤ n1 + k := by rw [hNN]; exact HPL.out k
    rw [← hNN]
    by_cases hkm : k < m
    · have hl : k < P.stmts.length := by rw [← HN.out.2.2]; omega
      obtain ⟨_, _, hv, _, hst⟩ := HP.out.stmts
      obtain ⟨b', o', ha, ⟨pv, r0, -, -, -, -⟩⟩ := hst k hl
      obtain ⟨rfl, rfl⟩ : b' = b ∧ o' = o := by
        have := (Value.slice.inj hv).1.trans ha
        cases this
        exact ⟨rfl, rfl⟩
      obtain ⟨z, hz⟩ : ∃ z, z = P.stmts.getD k default := ⟨_, rfl⟩
      obtain ⟨bk, hbk⟩ : ∃ b, b = S z.kind := ⟨_, rfl⟩
      rw [← hz, ← hbk] at r0
      have hsucc := places_succ P k hl
      rw [← hz, ← hNN] at hsucc
      have hkn3 : (k : Int) < (n3 : Int) := by omega
      by_cases hkn : z.kind = kNew
      · have hkl : bk.toList = [110, 101, 119] := by rw [hbk, S_toList, hkn]; rfl
        have HSU : Hid (places P (k + 1) = N + 1) := by show places P (k + 1) = N + 1; rw [hsucc, hkn]; rfl
        clear hv hst ha hl hz hbk hsucc hkn hNN
        go_wp2_with fail
        go_roundw
        case rel => exact ⟨k + 1, hkm, by rw [HSU.out]; go_num, by go_num, trivial⟩
        case measure => simp [intOf]; omega
      · have hkl : (bk.toList == [110, 101, 119]) = false := beq_eq_false_iff_ne.2 (fun q => hkn (by rw [hbk, S_toList] at q; exact q))
        have HSU : Hid (places P (k + 1) = N) := by show places P (k + 1) = N; rw [hsucc, if_neg (by simpa using hkn)]; rfl
        clear hv hst ha hl hz hbk hsucc hkn hNN
        go_wp2_with fail
        go_roundw
        case rel => exact ⟨k + 1, hkm, by rw [HSU.out], by go_num, trivial⟩
        case measure => simp [intOf]; omega
    · have HF : Hid (R = (N : Int)) := by show R = _; rw [hb.out, hNN, show k = m by omega]
      clear hNN
      go_wp2_with fail
      go_ret
      exact ⟨by rw [HF.out]; rfl, hBW⟩
end Go.Proofs.YteekjigaicmohaaGreatDoor

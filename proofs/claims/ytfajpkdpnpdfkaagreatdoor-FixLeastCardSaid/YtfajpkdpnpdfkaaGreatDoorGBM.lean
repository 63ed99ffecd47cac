/-
  The document's within and IsEdge, by contracts.
-/
import Derived.Test.YtfajpkdpnpdfkaaGreatDoorXMM
import Derived.Test.YtfajpkdpnpdfkaaGreatDoorQFM
import Derived.Test.YtfajpkdpnpdfkaaGreatDoorRefAM
import Derived.Test.YtfajpkdpnpdfkaaGreatDoorXCM
namespace Go.Proofs.YtfajpkdpnpdfkaaGreatDoor
open Go.RowKit Go.Extern.Stop Go.Stop Go.Extern

theorem all_take_succG (p : Int → Bool) (zs : List Int) (k : Nat) (h : k < zs.length) (h1 : (zs.take k).all p = true) (h2 : p (zs.getD k 0) = true) : (zs.take (k + 1)).all p = true := by
  rw [take_snoc zs 0 k h, List.all_append, h1]
  simpa using h2
theorem all_at_no (p : Int → Bool) (zs : List Int) (k : Nat) (h : k < zs.length) (h2 : p (zs.getD k 0) = false) : zs.all p = false := by
  rw [List.all_eq_false]
  exact ⟨zs[k], List.getElem_mem h, by simpa [List.getD, h] using h2⟩
set_option maxRecDepth 100000 in
set_option maxHeartbeats 4000000 in
theorem refWithin_any (xs ys : List Int) (u v : Value) (w : World) (hx : xs.length ≤ 1000000) (hy : ys.length ≤ 1000000) (h1 : IsInts w u xs) (h2 : IsInts w v ys) :
    Calls Tryz.prog 58 #[u, v] w fun e w' => e = .returned (.bool (xs.all fun x => ys.contains x)) ∧ w' = w := by
  have H1 : Hid (IsInts w u xs) := h1
  have KH : Hid (∀ x, Calls Tryz.prog 41 #[v, .int .i64 x] w fun e w' => e = .returned (.bool (ys.contains x)) ∧ w' = w) := fun x => refHas_any ys v x w hy h2
  obtain ⟨ua, uc, rfl⟩ := isInts_form h1
  obtain ⟨va, vc, rfl⟩ := isInts_form h2
  obtain ⟨R, hR⟩ : ∃ R, R = xs.all fun x => ys.contains x := ⟨_, rfl⟩
  obtain ⟨n, hn⟩ : ∃ n, n = xs.length := ⟨_, rfl⟩
  obtain ⟨m, hm⟩ : ∃ n, n = ys.length := ⟨_, rfl⟩
  have HR : Hid (R = (xs.all fun x => ys.contains x) ∧ n = xs.length) := ⟨hR, hn⟩
  rw [← hR, ← hn, ← hm]
  rw [← hm] at KH
  rw [← hn] at hx
  have HC : Hid (∀ k, k < n → ∃ b o, ua = some ⟨b, o, none⟩ ∧ w.cell? ⟨b, o + k, none⟩ = some (.int .i64 (xs.getD k 0))) := fun k hk => by
    rcases H1.out with ⟨q, _⟩ | ⟨_, b, o, c, q, hc⟩
    · rw [hn, q] at hk; cases hk
    · injection q with q1 q2 q3
      exact ⟨b, o, q1, hc k (by omega)⟩
  clear h1 h2 hR hn hm H1 hy
  go_enter Tryz.func58, Tryz.ntmps58
  go_wp2_with fail
  go_loopw [5] (fun t wr => ∃ k : Nat, k ≤ n ∧ t = .int .i64 k ∧ wr = w ∧ (xs.take k).all (fun x => ys.contains x) = true) (fun t _ => (n - intOf t).toNat)
  case atStart => exact ⟨0, Nat.zero_le _, rfl, rfl, rfl⟩
  case round =>
    obtain ⟨k, hk, rfl, hwr, hall⟩ := hrel
    obtain rfl := hwr.symm
    clear hwr
    have HA : Hid ((xs.take k).all (fun x => ys.contains x) = true) := hall
    clear hall
    by_cases hlt : k < n
    · obtain ⟨b, o, rfl, e0⟩ := HC.out k hlt
      have hki : (k : Int) < n := by omega
      obtain ⟨z, hz⟩ : ∃ z, z = xs.getD k 0 := ⟨_, rfl⟩
      rw [← hz] at e0
      obtain ⟨D, hD⟩ : ∃ D, D = ys.contains z := ⟨_, rfl⟩
      have KZ : Hid _ := KH.out z
      rw [← hD] at KZ
      have HD : Hid (D = ys.contains (xs.getD k 0)) := by show _ = _; rw [← hz]; exact hD
      clear hz hD
      go_wp2_with fail
      refine Calls.mono KZ.out ?_
      rintro e w1 ⟨rfl, hw1⟩
      obtain rfl := hw1.symm
      clear hw1 KZ
      cases D with
      | false =>
        have HF : Hid (R = false) := by
          show R = false
          rw [HR.out.1]
          exact all_at_no _ xs k (by rw [← HR.out.2]; exact hlt) HD.out.symm
        go_wp2_with fail
        go_ret
        exact ⟨by rw [HF.out]; rfl, rfl⟩
      | true =>
        go_wp2_with fail
        go_roundw
        case rel => exact ⟨k + 1, hlt, by go_num, trivial, all_take_succG _ xs k (by rw [← HR.out.2]; exact hlt) HA.out HD.out.symm⟩
        case measure => simp [intOf]; omega
    · have HF : Hid (R = true) := by
        show R = true
        have := HA.out
        rw [List.take_of_length_le (by rw [← HR.out.2]; omega)] at this
        rw [HR.out.1]; exact this
      go_wp2_with fail
      go_ret
      exact ⟨by rw [HF.out]; rfl, rfl⟩
theorem any_take_no {α : Type} (d : α) (p : α → Bool) (zs : List α) (k : Nat) (h : k < zs.length) (h1 : (zs.take k).any p = false) (h2 : p (zs.getD k d) = false) : (zs.take (k + 1)).any p = false := by
  rw [take_snoc zs d k h, List.any_append, h1]
  simpa using h2
theorem any_range_step (p : Nat → Bool) (k : Nat) (h1 : (List.range k).any p = false) (h2 : p k = false) : (List.range (k + 1)).any p = false := by
  rw [List.range_succ, List.any_append, h1]
  simpa using h2
theorem any_range_at (p : Nat → Bool) (k n : Nat) (h : k < n) (h2 : p k = true) : (List.range n).any p = true :=
  List.any_eq_true.2 ⟨k, List.mem_range.2 h, h2⟩
theorem kd_eq {kd : ByteArray} {k : Bs} (h : kd.toList = k) (c : Bs) : (kd.toList == c) = (k == c) := by rw [h]
theorem ints_at {w : World} {pa : Option Addr} {n pc : Nat} {zs : List Int} (h : IsInts w (.slice pa n pc) zs) (hn : n = zs.length) (i : Nat) (hi : i < n) : ∃ b o, pa = some ⟨b, o, none⟩ ∧ w.cell? ⟨b, o + i, none⟩ = some (.int .i64 (zs.getD i 0)) := by
  rcases h with ⟨q, _⟩ | ⟨_, b, o, c, q, hc⟩
  · rw [hn, q] at hi; cases hi
  · injection q with q1 q2 q3
    exact ⟨b, o, q1, hc i (by omega)⟩
/-- One function of a call. -/
def callOne (hs : List (List Int)) (r : RuleD) (fs : List FunD) (a b : Int) (f : Nat) : Bool := (setAt hs r.a).contains ((hs.length : Int) + f) && decide ((fs.getD f default).params.length = r.args.length) && callB r (fs.getD f default) a b

set_option maxRecDepth 100000 in
set_option maxHeartbeats 16000000 in
theorem refIsEdge_any (P : ProgD) (v1 v2 v3 hv : Value) (hs : List (List Int)) (r : RuleD) (av : Value) (a b : Int) (w : World) (hS : SmallP P) (hc : checkE P = none) (h : IsProg w v1 v2 v3 P) (hH : IsSets w hv hs) (hok : SetsOk P hs) (hA : IsInts w av r.args) (hra : 0 ≤ r.a ∧ r.a.toNat < hs.length) (hrb : 0 ≤ r.b ∧ r.b.toNat < hs.length) (hkk : r.kind = kCopy ∨ r.kind = kLoad ∨ r.kind = kStore ∨ r.kind = kCall) :
    Calls Tryz.prog 57 #[.agg #[v1, v2, v3], .agg #[.string (S r.kind), .int .i64 r.a, .int .i64 r.b, .int .i64 r.stmt, av], hv, .int .i64 a, .int .i64 b] w fun e w' => e = .returned (.bool (isEdgeB P hs r a b)) ∧ Below w.heap.size w w' := by
  have H : Hid (IsProg w v1 v2 v3 P ∧ IsSets w hv hs ∧ IsInts w av r.args ∧ SetsOk P hs) := ⟨h, hH, hA, hok⟩
  obtain ⟨⟨a1, c1, rfl, -, -⟩, ⟨a2, c2, rfl, -, -⟩, ⟨a3, c3, rfl, -, -⟩⟩ := h
  obtain ⟨ha, hcc, rfl, -⟩ := hH
  obtain ⟨aa, ac, rfl⟩ := isInts_form hA
  obtain ⟨n1, hn1⟩ : ∃ m, m = P.vars.length := ⟨_, rfl⟩
  obtain ⟨n2, hn2⟩ : ∃ m, m = P.funs.length := ⟨_, rfl⟩
  obtain ⟨n3, hn3⟩ : ∃ m, m = P.stmts.length := ⟨_, rfl⟩
  obtain ⟨n, hnn⟩ : ∃ m, m = hs.length := ⟨_, rfl⟩
  obtain ⟨na, hna⟩ : ∃ m, m = r.args.length := ⟨_, rfl⟩
  obtain ⟨kd, hkd⟩ : ∃ kd, kd = S r.kind := ⟨_, rfl⟩
  have hkl : kd.toList = r.kind := by rw [hkd, S_toList]
  obtain ⟨ka, hka⟩ : ∃ k : Nat, r.a = (k : Int) := ⟨r.a.toNat, by omega⟩
  obtain ⟨kb, hkb⟩ : ∃ k : Nat, r.b = (k : Int) := ⟨r.b.toNat, by omega⟩
  obtain ⟨rs, hrs⟩ : ∃ z, z = r.stmt := ⟨_, rfl⟩
  obtain ⟨R, hR⟩ : ∃ R, R = isEdgeB P hs r a b := ⟨_, rfl⟩
  have HN : Hid (n1 = P.vars.length ∧ n2 = P.funs.length ∧ n3 = P.stmts.length ∧ n = hs.length ∧ na = r.args.length ∧ r.a = (ka : Int) ∧ r.b = (kb : Int)) := ⟨hn1, hn2, hn3, hnn, hna, hka, hkb⟩
  have HR : Hid (R = isEdgeB P hs r a b) := hR
  have hkan : ka < n := by omega
  have hkbn : kb < n := by omega
  have hkai : (ka : Int) < n := by omega
  have hkbi : (kb : Int) < n := by omega
  have hn2l : n2 ≤ 8 := by rw [hn2]; exact (right_small hc).2.2
  have hnl : n ≤ 1000 := by
    obtain ⟨s1, s2, s3⟩ := right_small hc
    have hpl := places_le P P.stmts.length
    have := hok.len
    omega
  rw [← hn1, ← hn2, ← hn3] at H ⊢
  rw [← hnn, ← hna] at H ⊢
  rw [← hkd, hka, hkb, ← hrs, ← hR]
  have KN : Hid (∀ wx, Below w.heap.size w wx → Calls Tryz.prog 48 #[.agg #[.slice a1 n1 c1, .slice a2 n2 c2, .slice a3 n3 c3]] wx fun e w' => e = .returned (.int .i64 (n : Int)) ∧ Below wx.heap.size wx w') := fun wx hb => by
    have := refNodes_any P _ _ _ wx hS (H.out.1.below hb)
    rw [← H.out.2.2.2.len, ← HN.out.2.2.2.1] at this
    exact this
  have KH : Hid (∀ wx k x, k < n → Below w.heap.size w wx → ∃ b o xa xn xc, ha = some ⟨b, o, none⟩ ∧ wx.cell? ⟨b, o + k, none⟩ = some (.slice xa xn xc) ∧ Calls Tryz.prog 41 #[.slice xa xn xc, .int .i64 x] wx fun e w' => e = .returned (.bool ((setAt hs (k : Int)).contains x)) ∧ w' = wx) := fun wx k x hk hb => by
    obtain ⟨a', c', e', q⟩ := H.out.2.1.below hb
    injection e' with e1 e2 e3
    obtain ⟨b, o, xv, q1, q2, q3⟩ := q k (by rw [← HN.out.2.2.2.1]; exact hk)
    obtain ⟨xa, xc, rfl⟩ := isInts_form q3
    refine ⟨b, o, xa, _, xc, by rw [e1, q1], q2, ?_⟩
    unfold setAt
    rw [Int.toNat_natCast]
    exact refHas_any _ _ x wx (by have := H.out.2.2.2.short hc k (by rw [← HN.out.2.2.2.1]; exact hk); omega) q3
  obtain ⟨W, hW⟩ : ∃ W, W = (w.alloc (.cells #[.slice a1 n1 c1, .slice a2 n2 c2, .slice a3 n3 c3] 26)).alloc (.cells #[.string kd, .int .i64 (ka : Int), .int .i64 (kb : Int), .int .i64 rs, .slice aa na ac] 44) := ⟨_, rfl⟩
  have hBW : Below w.heap.size w W := by rw [hW]; exact (below1 w _).alloc (by simp) _
  have HB2 : Hid (W.heap[w.heap.size]? = some (.cells #[.slice a1 n1 c1, .slice a2 n2 c2, .slice a3 n3 c3] 26 (0, 0)) ∧ W.heap[w.heap.size + 1]? = some (.cells #[.string kd, .int .i64 (ka : Int), .int .i64 (kb : Int), .int .i64 rs, .slice aa na ac] 44 (0, 0)) ∧ Below w.heap.size w W) := by
    refine ⟨?_, ?_, hBW⟩
    · rw [hW]; exact block_keep (below1 _ _) (heap_new w _)
    · rw [hW]
      have := heap_new (w.alloc (.cells #[.slice a1 n1 c1, .slice a2 n2 c2, .slice a3 n3 c3] 26)) (.cells #[.string kd, .int .i64 (ka : Int), .int .i64 (kb : Int), .int .i64 rs, .slice aa na ac] 44)
      simpa using this
  have HX : Hid (∀ wx, Below W.heap.size W wx → Box3 wx w.heap.size (.slice a1 n1 c1) (.slice a2 n2 c2) (.slice a3 n3 c3) ∧ wx.cell? ⟨w.heap.size + 1, 0, none⟩ = some (.string kd) ∧ wx.cell? ⟨w.heap.size + 1, 1, none⟩ = some (.int .i64 (ka : Int)) ∧ wx.cell? ⟨w.heap.size + 1, 2, none⟩ = some (.int .i64 (kb : Int)) ∧ wx.cell? ⟨w.heap.size + 1, 4, none⟩ = some (.slice aa na ac) ∧ Below w.heap.size w wx) := fun wx hb => by
    have h1 := block_keep hb HB2.out.1
    have h2 := block_keep hb HB2.out.2.1
    refine ⟨⟨?_, ?_, ?_⟩, ?_, ?_, ?_, ?_, HB2.out.2.2.trans (hb.mono HB2.out.2.2.size)⟩
    · rw [Lib.cell_of_heap h1]; rfl
    · rw [Lib.cell_of_heap h1]; rfl
    · rw [Lib.cell_of_heap h1]; rfl
    · rw [Lib.cell_of_heap h2]; rfl
    · rw [Lib.cell_of_heap h2]; rfl
    · rw [Lib.cell_of_heap h2]; rfl
    · rw [Lib.cell_of_heap h2]; rfl
  have hS3 : ∀ f ∈ P.funs, f.params.length ≤ 100000 := hS.2.2.2.1
  have HS3 : Hid (∀ f ∈ P.funs, f.params.length ≤ 100000) := hS3
  obtain ⟨⟨p0, p1, p2⟩, -, -, -, -, -⟩ := HX.out W (Below.refl _ _)
  clear hn1 hn2 hn3 hnn hna hkd hka hkb hrs hR hS hS3 hra hrb hok hA
  go_enter Tryz.func57, Tryz.ntmps57
  go_upto_region 1 with fail
  rw [← hW]
  clear hW
  go_wp2_with fail
  refine (KN.out W hBW).mono ?_
  rintro e w1 ⟨rfl, hb1⟩
  obtain ⟨⟨q0, q1, q2⟩, c0, c1', c2', c4, hBw1⟩ := HX.out w1 hb1
  have HB1 : Hid (Below W.heap.size W w1 ∧ Below w.heap.size w w1) := ⟨hb1, hBw1⟩
  clear p0 p1 p2 hb1 hBw1 hBW KN
  rcases hkk with hk | hk | hk | hk
  · have g0 : (kd.toList == [99, 111, 112, 121]) = true := by rw [hkl, hk]; decide
    have HV : Hid (R = (a == (ka : Int) && b == (kb : Int))) := by
      show R = _
      rw [HR.out]; unfold isEdgeB
      rw [if_pos hk, HN.out.2.2.2.2.2.1, HN.out.2.2.2.2.2.2]
    clear hk hkl
    by_cases h1 : a = (ka : Int)
    · have HVV : Hid (R = (b == (kb : Int))) := by show R = _; rw [HV.out]; simp [h1]
      go_wp2_with fail
      go_ret
      exact ⟨by rw [HVV.out]; rfl, HB1.out.2⟩
    · have HVV : Hid (R = false) := by show R = false; rw [HV.out]; simp [h1]
      go_wp2_with fail
      go_ret
      exact ⟨by rw [HVV.out]; rfl, HB1.out.2⟩
  · have g0 : (kd.toList == [99, 111, 112, 121]) = false := by rw [hkl, hk]; decide
    have g1 : (kd.toList == [108, 111, 97, 100]) = true := by rw [hkl, hk]; decide
    have HV : Hid (R = (b == (kb : Int) && decide (a < (n : Int)) && (setAt hs (ka : Int)).contains a)) := by
      show R = _
      rw [HR.out]; unfold isEdgeB
      rw [if_neg (by rw [hk]; decide), if_pos hk, HN.out.2.2.2.2.2.1, HN.out.2.2.2.2.2.2, HN.out.2.2.2.1]
    clear hk hkl
    obtain ⟨bb, oo, xa, xn, xc, rfl, e0, KC⟩ := KH.out w1 ka a hkan HB1.out.2
    by_cases h1 : b = (kb : Int)
    · by_cases h2 : a < (n : Int)
      · obtain ⟨D, hD⟩ : ∃ D, D = (setAt hs (ka : Int)).contains a := ⟨_, rfl⟩
        rw [← hD] at KC
        have HVV : Hid (R = D) := by show R = D; rw [HV.out, hD]; simp [h1, h2]
        have KC' : Hid _ := KC
        clear KC hD HV
        go_wp2_with fail
        refine Calls.mono KC'.out ?_
        rintro e w2 ⟨rfl, hw2⟩
        obtain rfl := hw2.symm
        clear hw2
        go_wp2_with fail
        go_ret
        exact ⟨by rw [HVV.out]; rfl, HB1.out.2⟩
      · have HVV : Hid (R = false) := by show R = false; rw [HV.out]; simp [h2]
        clear KC
        go_wp2_with fail
        go_ret
        exact ⟨by rw [HVV.out]; rfl, HB1.out.2⟩
    · have HVV : Hid (R = false) := by show R = false; rw [HV.out]; simp [h1]
      clear KC
      go_wp2_with fail
      go_ret
      exact ⟨by rw [HVV.out]; rfl, HB1.out.2⟩
  · have g0 : (kd.toList == [99, 111, 112, 121]) = false := by rw [hkl, hk]; decide
    have g1 : (kd.toList == [108, 111, 97, 100]) = false := by rw [hkl, hk]; decide
    have g2 : (kd.toList == [115, 116, 111, 114, 101]) = true := by rw [hkl, hk]; decide
    have HV : Hid (R = (a == (ka : Int) && decide (b < (n : Int)) && (setAt hs (kb : Int)).contains b)) := by
      show R = _
      rw [HR.out]; unfold isEdgeB
      rw [if_neg (by rw [hk]; decide), if_neg (by rw [hk]; decide), if_pos hk, HN.out.2.2.2.2.2.1, HN.out.2.2.2.2.2.2, HN.out.2.2.2.1]
    clear hk hkl
    obtain ⟨bb, oo, xa, xn, xc, rfl, e0, KC⟩ := KH.out w1 kb b hkbn HB1.out.2
    by_cases h1 : a = (ka : Int)
    · by_cases h2 : b < (n : Int)
      · obtain ⟨D, hD⟩ : ∃ D, D = (setAt hs (kb : Int)).contains b := ⟨_, rfl⟩
        rw [← hD] at KC
        have HVV : Hid (R = D) := by show R = D; rw [HV.out, hD]; simp [h1, h2]
        have KC' : Hid _ := KC
        clear KC hD HV
        go_wp2_with fail
        refine Calls.mono KC'.out ?_
        rintro e w2 ⟨rfl, hw2⟩
        obtain rfl := hw2.symm
        clear hw2
        go_wp2_with fail
        go_ret
        exact ⟨by rw [HVV.out]; rfl, HB1.out.2⟩
      · have HVV : Hid (R = false) := by show R = false; rw [HV.out]; simp [h2]
        clear KC
        go_wp2_with fail
        go_ret
        exact ⟨by rw [HVV.out]; rfl, HB1.out.2⟩
    · have HVV : Hid (R = false) := by show R = false; rw [HV.out]; simp [h1]
      clear KC
      go_wp2_with fail
      go_ret
      exact ⟨by rw [HVV.out]; rfl, HB1.out.2⟩
  · have g0 : (kd.toList == [99, 111, 112, 121]) = false := by rw [hkl, hk]; decide
    have g1 : (kd.toList == [108, 111, 97, 100]) = false := by rw [hkl, hk]; decide
    have g2 : (kd.toList == [115, 116, 111, 114, 101]) = false := by rw [hkl, hk]; decide
    have g3 : (kd.toList == [99, 97, 108, 108]) = true := by rw [hkl, hk]; decide
    have HV : Hid (R = (List.range n2).any (callOne hs r P.funs a b)) := by
      show R = _
      rw [HR.out, HN.out.2.1]; unfold isEdgeB
      rw [if_neg (by rw [hk]; decide), if_neg (by rw [hk]; decide), if_neg (by rw [hk]; decide), if_pos hk]
      rfl
    clear hk hkl
    have HF : Hid (∀ f, f < n2 → ∃ g o pa pc, a2 = some ⟨g, o, none⟩ ∧ w1.cell? ⟨g, o + f * 3 + 1, none⟩ = some (.slice pa (P.funs.getD f default).params.length pc) ∧ IsInts w1 (.slice pa (P.funs.getD f default).params.length pc) (P.funs.getD f default).params ∧ w1.cell? ⟨g, o + f * 3 + 2, none⟩ = some (.int .i64 (P.funs.getD f default).ret)) := fun f hf => by
      obtain ⟨a', c', e', _, q⟩ := (H.out.1.below HB1.out.2).funs
      injection e' with e1 e2 e3
      obtain ⟨g, o, r1, pv, r2, r3, r4, r5⟩ := q f (by rw [← HN.out.2.1]; exact hf)
      have hi := r4.1
      obtain ⟨pa, pc, rfl⟩ := isInts_form hi
      exact ⟨g, o, pa, pc, by rw [e1, r1], r3, hi, r5⟩
    have HA1 : Hid (IsInts w1 (.slice aa na ac) r.args) := H.out.2.2.1.below HB1.out.2
    go_wp2_with fail
    go_loopw [12] (fun t12 wr => ∃ f : Nat, f ≤ n2 ∧ t12 = .int .i64 f ∧ (List.range f).any (callOne hs r P.funs a b) = false ∧ wr = w1) (fun t12 _ => (n2 - intOf t12).toNat)
    case atStart => exact ⟨0, Nat.zero_le _, rfl, rfl, rfl⟩
    case round =>
      obtain ⟨f, hf, rfl, hany, hwr⟩ := hrel
      obtain rfl := hwr.symm
      clear hwr
      have HNY : Hid ((List.range f).any (callOne hs r P.funs a b) = false) := hany
      clear hany
      by_cases hlt : f < n2
      · obtain ⟨g, o, pa, pc, rfl, f1, f2, f3⟩ := HF.out f hlt
        obtain ⟨fd, hfd⟩ : ∃ z, z = P.funs.getD f default := ⟨_, rfl⟩
        rw [← hfd] at f1 f2 f3
        have hfi : (f : Int) < n2 := by omega
        have hwrap : IntKind.i64.wrap ((n : Int) + (f : Int)) = (n : Int) + f := by rw [IntKind.wrap_i64]; omega
        obtain ⟨bb, oo, xa, xn, xc, rfl, e0, KC⟩ := KH.out w1 ka ((n : Int) + f) hkan HB1.out.2
        obtain ⟨D, hD⟩ : ∃ D, D = (setAt hs (ka : Int)).contains ((n : Int) + f) := ⟨_, rfl⟩
        rw [← hD] at KC
        obtain ⟨np, hnp⟩ : ∃ z, z = fd.params.length := ⟨_, rfl⟩
        obtain ⟨rt, hrt⟩ : ∃ z, z = fd.ret := ⟨_, rfl⟩
        rw [← hnp] at f1 f2
        rw [← hrt] at f3
        have hnp6 : np ≤ 1000000 := by
          rw [hnp, hfd]
          have := HS3.out _ (getDmC (by rw [← HN.out.2.1]; exact hlt))
          omega
        have HC1 : Hid (callOne hs r P.funs a b f = (D && decide (np = na) && callB r fd a b)) := by
          show _ = _
          unfold callOne
          rw [HN.out.2.2.2.2.2.1, ← HN.out.2.2.2.1, ← hfd, ← hnp, ← HN.out.2.2.2.2.1, ← hD]
        have HFD : Hid (np = fd.params.length ∧ rt = fd.ret ∧ IsInts w1 (.slice pa np pc) fd.params) := ⟨hnp, hrt, f2⟩
        have KC' : Hid _ := KC
        clear KC hD hnp hrt hfd f2
        go_wp2_with fail
        refine Calls.mono KC'.out ?_
        rintro e w2 ⟨rfl, hw2⟩
        obtain rfl := hw2.symm
        clear hw2 KC'
        cases D with
        | false =>
          have HS1 : Hid ((List.range (f + 1)).any (callOne hs r P.funs a b) = false) := any_range_step _ f HNY.out (by rw [HC1.out]; rfl)
          go_wp2_with fail
          go_roundw
          case rel => exact ⟨f + 1, hlt, by go_num, HS1.out, trivial⟩
          case measure => simp [intOf]; omega
        | true =>
          by_cases hl : np = na
          · subst hl
            by_cases q : a = rt ∧ b = (kb : Int)
            · obtain ⟨h1, h2⟩ := q
              have HVV : Hid (R = true) := by
                show R = true
                rw [HV.out]
                refine any_range_at _ f n2 hlt ?_
                rw [HC1.out]
                unfold callB
                rw [← HFD.out.2.1, HN.out.2.2.2.2.2.2]
                simp [h1, h2]
              subst h1 h2
              go_wp2_with fail
              go_ret
              exact ⟨by rw [HVV.out]; rfl, HB1.out.2⟩
            · have HNQ : Hid (¬ (a = rt ∧ b = (kb : Int))) := q
              have hq : ((a == rt) = true ∧ (b == (kb : Int)) = false) ∨ (a == rt) = false := by
                by_cases h1 : a = rt
                · exact Or.inl ⟨by simp [h1], by simp; exact fun h2 => q ⟨h1, h2⟩⟩
                · exact Or.inr (by simp [h1])
              clear q
              rcases hq with ⟨h1, h2⟩ | h1
              all_goals
                go_wp2_with fail
                go_loopw [14] (fun t14 wr => ∃ i : Nat, i ≤ np ∧ t14 = .int .i64 i ∧ (List.range i).any (fun i => a == r.args.getD i 0 && b == fd.params.getD i 0) = false ∧ wr = w1) (fun t14 _ => (np - intOf t14).toNat)
                case atStart => exact ⟨0, Nat.zero_le _, rfl, rfl, rfl⟩
                case round =>
                  obtain ⟨i, hi, rfl, hany, hwr⟩ := hrel
                  obtain rfl := hwr.symm
                  clear hwr
                  have HNI : Hid ((List.range i).any (fun i => a == r.args.getD i 0 && b == fd.params.getD i 0) = false) := hany
                  clear hany
                  by_cases hlt2 : i < np
                  · have hii : (i : Int) < np := by omega
                    obtain ⟨b1, o1, rfl, d0⟩ := ints_at HA1.out HN.out.2.2.2.2.1 i hlt2
                    obtain ⟨b2, o2, rfl, d1⟩ := ints_at HFD.out.2.2 HFD.out.1 i hlt2
                    obtain ⟨za, hza⟩ : ∃ z, z = r.args.getD i 0 := ⟨_, rfl⟩
                    obtain ⟨zb, hzb⟩ : ∃ z, z = fd.params.getD i 0 := ⟨_, rfl⟩
                    rw [← hza] at d0
                    rw [← hzb] at d1
                    have HZ : Hid (za = r.args.getD i 0 ∧ zb = fd.params.getD i 0) := ⟨hza, hzb⟩
                    clear hza hzb
                    by_cases t1 : a = za
                    · by_cases t2 : b = zb
                      · have HVV : Hid (R = true) := by
                          show R = true
                          rw [HV.out]
                          refine any_range_at _ f n2 hlt ?_
                          rw [HC1.out]
                          unfold callB
                          rw [any_range_at _ i fd.params.length (by rw [← HFD.out.1]; exact hlt2) (by rw [← HZ.out.1, ← HZ.out.2]; simp [t1, t2])]
                          simp
                        have e1 : (a == za) = true := by simp [t1]
                        have e2 : (b == zb) = true := by simp [t2]
                        clear t1 t2
                        go_wp2_with fail
                        go_ret
                        exact ⟨by rw [HVV.out]; rfl, HB1.out.2⟩
                      · have HS2 : Hid ((List.range (i + 1)).any (fun i => a == r.args.getD i 0 && b == fd.params.getD i 0) = false) := any_range_step _ i HNI.out (by rw [← HZ.out.1, ← HZ.out.2]; simp [t2])
                        have e1 : (a == za) = true := by simp [t1]
                        have e2 : (b == zb) = false := by simp [t2]
                        clear t1 t2
                        go_wp2_with fail
                        go_roundw
                        case rel => exact ⟨i + 1, hlt2, by go_num, HS2.out, trivial⟩
                        case measure => simp [intOf]; omega
                    · have HS2 : Hid ((List.range (i + 1)).any (fun i => a == r.args.getD i 0 && b == fd.params.getD i 0) = false) := any_range_step _ i HNI.out (by rw [← HZ.out.1, ← HZ.out.2]; simp [t1])
                      have e1 : (a == za) = false := by simp [t1]
                      clear t1
                      go_wp2_with fail
                      go_roundw
                      case rel => exact ⟨i + 1, hlt2, by go_num, HS2.out, trivial⟩
                      case measure => simp [intOf]; omega
                  · have HS1 : Hid ((List.range (f + 1)).any (callOne hs r P.funs a b) = false) := any_range_step _ f HNY.out (by
                      rw [HC1.out]
                      unfold callB
                      have hin : i = fd.params.length := by rw [← HFD.out.1]; omega
                      have := HNI.out
                      rw [hin] at this
                      rw [this, ← HFD.out.2.1, HN.out.2.2.2.2.2.2]
                      have hnq := HNQ.out
                      by_cases u1 : a = rt
                      · have u2 : ¬ b = (kb : Int) := fun u2 => hnq ⟨u1, u2⟩
                        simp [u2]
                      · simp [u1])
                    go_wp2_with fail
                    go_roundw
                    case rel => exact ⟨f + 1, hlt, by go_num, HS1.out, trivial⟩
                    case measure => simp [intOf]; omega
          · have HS1 : Hid ((List.range (f + 1)).any (callOne hs r P.funs a b) = false) := any_range_step _ f HNY.out (by rw [HC1.out, decide_eq_false hl]; simp)
            have hne : ¬ ((np : Int) = (na : Int)) := by omega
            go_wp2_with fail
            go_roundw
            case rel => exact ⟨f + 1, hlt, by go_num, HS1.out, trivial⟩
            case measure => simp [intOf]; omega
      · have HVV : Hid (R = false) := by
          show R = false
          rw [HV.out]
          have := HNY.out
          rw [show f = n2 by omega] at this
          exact this
        go_wp2_with fail
        go_ret
        exact ⟨by rw [HVV.out]; rfl, HB1.out.2⟩
end Go.Proofs.YtfajpkdpnpdfkaaGreatDoor

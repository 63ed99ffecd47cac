/-
  SameInts at any two lists.
-/
import Derived.Test.YtbppimahedbpoaaDoorFM
namespace Go.Proofs.YtbppimahedbpoaaDoor
open Go.RowKit Go.Extern.Stop Go.Stop Go.Extern

theorem take_snoc {α : Type} (l : List α) (d : α) (k : Nat) (h : k < l.length) : l.take (k + 1) = l.take k ++ [l.getD k d] := by
  rw [List.take_succ_eq_append_getElem h]
  simp [List.getD, h]
theorem take_eq_all {xs ys : List Int} (hl : xs.length = ys.length) (n : Nat) (hn : n = xs.length) (h : xs.take n = ys.take n) : xs = ys := by
  rw [List.take_of_length_le (by omega), List.take_of_length_le (by omega)] at h
  exact h
theorem take_eq_step {xs ys : List Int} {k : Nat} (hx : k < xs.length) (hy : k < ys.length) (h : xs.take k = ys.take k) (h1 : xs.getD k 0 = ys.getD k 0) : xs.take (k + 1) = ys.take (k + 1) := by
  rw [take_snoc xs 0 k hx, take_snoc ys 0 k hy, h, h1]
theorem ints_atB {w : World} {pa : Option Addr} {n pc : Nat} {zs : List Int} (h : IsInts w (.slice pa n pc) zs) (hn : n = zs.length) (i : Nat) (hi : i < n) : ∃ b o, pa = some ⟨b, o, none⟩ ∧ w.cell? ⟨b, o + i, none⟩ = some (.int .i64 (zs.getD i 0)) := by
  rcases h with ⟨q, _⟩ | ⟨_, b, o, c, q, hc⟩
  · rw [hn, q] at hi; cases hi
  · injection q with q1 q2 q3
    exact ⟨b, o, q1, hc i (by omega)⟩
set_option maxRecDepth 100000 in
set_option maxHeartbeats 4000000 in
theorem sameInts_any (xs ys : List Int) (u v : Value) (w : World) (hx : xs.length ≤ 1000000) (hy : ys.length ≤ 1000000) (h1 : IsInts w u xs) (h2 : IsInts w v ys) :
    Calls Tryd.prog 15 #[u, v] w fun e w' => e = .returned (.bool (decide (xs = ys))) ∧ Below w.heap.size w w' := by
  obtain ⟨R, hR⟩ : ∃ R, R = decide (xs = ys) := ⟨_, rfl⟩
  have HR : Hid (R = decide (xs = ys)) := hR
  have H1 : Hid (IsInts w u xs) := h1
  have H2 : Hid (IsInts w v ys) := h2
  obtain ⟨ua, uc, rfl⟩ := isInts_form h1
  obtain ⟨va, vc, rfl⟩ := isInts_form h2
  obtain ⟨n, hn⟩ : ∃ n, n = xs.length := ⟨_, rfl⟩
  obtain ⟨m, hm⟩ : ∃ n, n = ys.length := ⟨_, rfl⟩
  have HN : Hid (n = xs.length ∧ m = ys.length) := ⟨hn, hm⟩
  rw [← hR]
  rw [← hn] at H1 ⊢
  rw [← hm] at H2 ⊢
  rw [← hn] at hx
  rw [← hm] at hy
  clear h1 h2 hR hn hm
  go_enter Tryd.func15, Tryd.ntmps15
  by_cases hl : n = m
  · subst hl
    go_wp2_with fail
    go_loopw [5] (fun t wr => ∃ k : Nat, k ≤ n ∧ t = .int .i64 k ∧ xs.take k = ys.take k ∧ Below w.heap.size w wr) (fun t _ => (n - intOf t).toNat)
    case atStart => exact ⟨0, Nat.zero_le _, rfl, rfl, Below.refl _ _⟩
    case round =>
      obtain ⟨k, hk, rfl, htk, hB⟩ := hrel
      have HT : Hid (xs.take k = ys.take k ∧ Below w.heap.size w wr) := ⟨htk, hB⟩
      clear htk
      by_cases hlt : k < n
      · have hki : (k : Int) < n := by omega
        obtain ⟨b1, o1, rfl, e1⟩ := ints_atB (H1.out.below hB) HN.out.1 k hlt
        obtain ⟨b2, o2, rfl, e2⟩ := ints_atB (H2.out.below hB) HN.out.2 k hlt
        obtain ⟨x, hx'⟩ : ∃ z, z = xs.getD k 0 := ⟨_, rfl⟩
        obtain ⟨y, hy'⟩ : ∃ z, z = ys.getD k 0 := ⟨_, rfl⟩
        rw [← hx'] at e1
        rw [← hy'] at e2
        have HXY : Hid (x = xs.getD k 0 ∧ y = ys.getD k 0) := ⟨hx', hy'⟩
        clear hx' hy' hB
        by_cases hxy : x = y
        · have HS1 : Hid (xs.take (k + 1) = ys.take (k + 1)) := take_eq_step (by rw [← HN.out.1]; exact hlt) (by rw [← HN.out.2]; exact hlt) HT.out.1 (by rw [← HXY.out.1, ← HXY.out.2]; exact hxy)
          subst hxy
          go_wp2_with fail
          go_quiet (fail)
          go_wp2_with fail
          go_roundw
          case rel => exact ⟨k + 1, hlt, by go_num, HS1.out, below_drewN HT.out.2 _⟩
          case measure => simp [intOf]; omega
        · have HF : Hid (R = false) := by
            show R = false
            rw [HR.out]
            refine decide_eq_false fun q => hxy ?_
            rw [HXY.out.1, HXY.out.2, q]
          go_wp2_with fail
          go_quiet (fail)
          go_wp2_with fail
          go_ret
          exact ⟨by rw [HF.out]; rfl, below_drewN HT.out.2 _⟩
      · have hkn : k = n := by omega
        have HF : Hid (R = true) := by
          show R = true
          rw [HR.out]
          exact decide_eq_true (take_eq_all (by rw [← HN.out.1, ← HN.out.2]) k (by rw [hkn]; exact HN.out.1) HT.out.1)
        clear hB
        go_wp2_with fail
        go_ret
        exact ⟨by rw [HF.out]; rfl, HT.out.2⟩
  · have hl' : ¬ ((n : Int) = (m : Int)) := by omega
    have HF : Hid (R = false) := by
      show R = false
      rw [HR.out]
      exact decide_eq_false fun q => hl (by rw [HN.out.1, HN.out.2, q])
    go_wp2_with fail
    go_ret
    exact ⟨by rw [HF.out]; rfl, Below.refl _ _⟩
end Go.Proofs.YtbppimahedbpoaaDoor

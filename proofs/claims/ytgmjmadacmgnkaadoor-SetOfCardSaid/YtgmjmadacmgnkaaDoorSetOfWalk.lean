/-
  The law SetOf, walked.
-/
import Derived.Test.YtgmjmadacmgnkaaDoorUnited
import Derived.Test.YtgmjmadacmgnkaaDoorRefSet
namespace Go.Proofs.YtgmjmadacmgnkaaDoor
open Go.RowKit Go.Extern.Stop Go.Stop Go.Extern Go.Sort

set_option maxRecDepth 100000 in
set_option maxHeartbeats 2000000 in
theorem setOf_long (a1 a2 a3 : Option Addr) (n1 n2 n3 c1 c2 c3 : Nat) (w : World) (ht : Pow w) (h : 60 < n1 ∨ 60 < n2 ∨ 60 < n3) :
    Calls Tryd.prog 5 #[.slice a1 n1 c1, .slice a2 n2 c2, .slice a3 n3 c3] w fun e w' => e = .returned (.bool true) ∧ Below w.heap.size w w' := by
  have HK : Hid (Calls Tryd.prog 10 #[] w fun e w' => e = .returned (.bool true) ∧ Below w.heap.size w w') := united_any w ht
  clear ht
  by_cases h1 : 60 < n1
  · clear h
    go_enter Tryd.func5, Tryd.ntmps5
    go_wp2_with fail
    refine HK.out.mono ?_
    rintro e w1 ⟨rfl, hB⟩
    go_wp2_with fail
    go_ret
    exact ⟨rfl, hB⟩
  · by_cases h2 : 60 < n2
    · clear h
      go_enter Tryd.func5, Tryd.ntmps5
      go_wp2_with fail
      refine HK.out.mono ?_
      rintro e w1 ⟨rfl, hB⟩
      go_wp2_with fail
      go_ret
      exact ⟨rfl, hB⟩
    · have h3 : 60 < n3 := by omega
      clear h
      go_enter Tryd.func5, Tryd.ntmps5
      go_wp2_with fail
      refine HK.out.mono ?_
      rintro e w1 ⟨rfl, hB⟩
      go_wp2_with fail
      go_ret
      exact ⟨rfl, hB⟩

set_option maxRecDepth 100000 in
set_option maxHeartbeats 4000000 in
theorem setOf_bad (a : Nat → Addr) (xs ys zs : List Int) (v1 v2 v3 : Value) (w : World) (ht : Pow w) (hE : Errs w a) (i1 : IsInts w v1 xs) (i2 : IsInts w v2 ys) (i3 : IsInts w v3 zs)
    (l1 : xs.length ≤ 60) (l2 : ys.length ≤ 60) (l3 : zs.length ≤ 60) (hin : ¬ InB xs) :
    Calls Tryd.prog 5 #[v1, v2, v3] w fun e w' => e = .returned (.bool true) ∧ Below w.heap.size w w' := by
  have HK : Hid (Calls Tryd.prog 10 #[] w fun e w' => e = .returned (.bool true) ∧ Below w.heap.size w w') := united_any w ht
  have H1 : Hid (IsInts w v1 xs) := i1
  have HE : Hid (Errs w a) := hE
  have HI : Hid (¬ InB xs) := hin
  obtain ⟨a1, c1, rfl⟩ := i1.form
  obtain ⟨a2, c2, rfl⟩ := i2.form
  obtain ⟨a3, c3, rfl⟩ := i3.form
  clear ht i1 i2 i3 hE hin
  obtain ⟨n, hn⟩ : ∃ n, n = xs.length := ⟨_, rfl⟩
  rw [← hn] at H1 l1 ⊢
  have HN : Hid (n = xs.length) := hn
  clear hn
  generalize ys.length = n2 at *
  generalize zs.length = n3 at *
  go_enter Tryd.func5, Tryd.ntmps5
  go_wp2_with fail
  refine HK.out.mono ?_
  rintro e w1 ⟨rfl, hB1⟩
  go_wp2_with fail
  refine (ownInts_any xs _ w1 (by rw [← HN.out]; omega) (H1.out.below hB1)).mono ?_
  rintro e w2 ⟨x2, rfl, hI2, hB2⟩
  have hBw2 : Below w.heap.size w w2 := hB1.trans (hB2.mono hB1.size)
  have HI2 : Hid (IsInts w2 x2 xs) := hI2
  clear hI2 hB2 hB1
  go_wp2_with fail
  refine (of_no a xs x2 w2 (by rw [← HN.out]; omega) HI2.out HI.out (HE.out.below hBw2).three).mono ?_
  rintro e w3 ⟨rfl, hB3⟩
  have hBw3 : Below w.heap.size w w3 := hBw2.trans (hB3.mono hBw2.size)
  clear hB3 hBw2
  go_wp2_with fail
  go_loopw [10, 11] (fun t u wr => ∃ k : Nat, k ≤ n ∧ u = .int .i64 k ∧ wr = w3 ∧ (t = .int .i64 2 ∨ (t = .int .i64 0 ∧ ∀ j, j < k → 0 ≤ xs.getD j 0 ∧ xs.getD j 0 < 1000))) (fun _ u _ => (n - intOf u).toNat)
  case atStart => exact ⟨0, Nat.zero_le _, rfl, rfl, Or.inr ⟨rfl, fun j hj => absurd hj (Nat.not_lt_zero _)⟩⟩
  case round =>
    obtain ⟨k, hk, rfl, rfl, hrel⟩ := hrel
    have HR : Hid (u10 = .int .i64 2 ∨ (u10 = .int .i64 0 ∧ ∀ j, j < k → 0 ≤ xs.getD j 0 ∧ xs.getD j 0 < 1000)) := hrel
    clear hrel
    by_cases hlt : k < n
    · rcases H1.out with ⟨hzn, _⟩ | ⟨hzn, b, o, c, hv, hc⟩
      · exfalso; have := HN.out; rw [hzn] at this; simp at this; omega
      obtain rfl : a1 = some ⟨b, o, none⟩ := by simpa using (Value.slice.inj hv).1
      have e1 := cell_keep hBw3 (hc k (by rw [← HN.out]; exact hlt))
      obtain ⟨z, hze⟩ : ∃ z, z = xs.getD k 0 := ⟨_, rfl⟩
      rw [← hze] at e1
      have HZ : Hid (z = xs.getD k 0) := hze
      clear hze hv hc hzn
      by_cases z0 : z < 0
      · go_wp2_with fail
        go_roundw
        case rel => exact ⟨k + 1, hlt, by go_num, trivial, Or.inl rfl⟩
        case measure => simp [intOf]; omega
      · by_cases z1 : 1000 ≤ z
        · go_wp2_with fail
          go_roundw
          case rel => exact ⟨k + 1, hlt, by go_num, trivial, Or.inl rfl⟩
          case measure => simp [intOf]; omega
        · have HZB : Hid (0 ≤ z ∧ z < 1000) := ⟨by omega, by omega⟩
          go_wp2_with fail
          go_roundw
          case rel =>
            refine ⟨k + 1, hlt, by go_num, trivial, ?_⟩
            rcases HR.out with g | ⟨g, hall⟩
            · exact Or.inl g
            · refine Or.inr ⟨g, fun j hj => ?_⟩
              rcases Nat.lt_succ_iff_lt_or_eq.1 hj with q | q
              · exact hall j q
              · rw [q, ← HZ.out]; exact HZB.out
          case measure => simp [intOf]; omega
    · have hu : u10 = .int .i64 2 := by
        rcases HR.out with g | ⟨_, hall⟩
        · exact g
        · exact absurd (fun j hj => hall j (by rw [← HN.out] at hj; omega)) HI.out
      subst hu
      go_wp2_with fail
      refine (coded_err a 1 2 _ (by omega) (by omega) (HE.out.below hBw3)).mono ?_
      rintro e w4 ⟨rfl, hB4⟩
      go_wp2
      go_ret
      exact ⟨rfl, hBw3.trans (hB4.mono hBw3.size)⟩
end Go.Proofs.YtgmjmadacmgnkaaDoor

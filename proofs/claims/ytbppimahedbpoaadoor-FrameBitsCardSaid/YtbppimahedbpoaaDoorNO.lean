/-
  The document's sum, by a contract.
-/
import Derived.Test.YtbppimahedbpoaaDoorNH
namespace Go.Proofs.YtbppimahedbpoaaDoor
open Go.RowKit Go.Extern.Stop Go.Stop Go.Extern

theorem take_snocC (l : Bs) (i : Nat) (h : i < l.length) (c : Nat) : restC (l.take (i + 1)) c = bringC (restC (l.take i) c) (l.getD i 0) := by
  rw [List.take_succ_eq_append_getElem h]
  unfold restC
  rw [List.foldl_append]
  simp [List.getD, h]
set_option maxRecDepth 100000 in
set_option maxHeartbeats 8000000 in
theorem refCrc_any (s : ByteArray) (w : World) (hs : s.size ≤ 1000000) :
    Calls Tryd.prog 17 #[.string s] w fun e w' => e = .returned (.int .i64 ((crcD s.data.toList : Nat) : Int)) ∧ w' = w := by
  obtain ⟨l, hl⟩ : ∃ l, l = s.data.toList := ⟨_, rfl⟩
  have HL : Hid (l = s.data.toList ∧ l.length = s.size) := ⟨hl, by rw [hl, ← Lib.size_eq]⟩
  have HG : Hid (∀ k (h : k < s.size), l.getD k 0 = s[k]) := fun k h => by rw [hl]; exact getD_dataN s k h
  rw [← hl]
  clear hl
  go_enter Tryd.func17, Tryd.ntmps17
  go_wp2_with fail
  go_loopw [3, 4] (fun t3 t4 wr => ∃ i : Nat, i ≤ s.size ∧ t3 = .int .i64 ((restC (l.take i) 4294967295 : Nat) : Int) ∧ t4 = .int .i64 (i : Int) ∧ wr = w) (fun _ t4 _ => (s.size - intOf t4).toNat)
  case atStart => exact ⟨0, Nat.zero_le _, rfl, rfl, rfl⟩
  case round =>
    obtain ⟨i, hi, rfl, rfl, hwr⟩ := hrel
    obtain rfl := hwr.symm
    clear hwr
    obtain ⟨c, hc⟩ : ∃ c, c = restC (l.take i) 4294967295 := ⟨_, rfl⟩
    have hcl : c < 4294967296 := by rw [hc]; exact restC_lt _ (by decide)
    rw [← hc]
    by_cases hlt : i < s.size
    · have hii : (i : Int) < s.size := by omega
      have HC : Hid (restC (l.take (i + 1)) 4294967295 = bringC c (s[i]'hlt) ∧ c < 4294967296) := by
        show _ ∧ _
        rw [take_snocC l i (by rw [HL.out.2]; exact hlt), HG.out i hlt, ← hc]
        exact ⟨rfl, hcl⟩
      clear hc hcl
      go_wp2_with fail
      go_loopw [3, 5] (fun t3 t5 wr => ∃ k : Nat, k ≤ 8 ∧ t3 = .int .i64 ((refC (s[i]'hlt).toNat k c : Nat) : Int) ∧ t5 = .int .i64 (k : Int) ∧ wr = w) (fun _ t5 _ => (8 - intOf t5).toNat)
      case atStart => exact ⟨0, Nat.zero_le _, rfl, rfl, rfl⟩
      case round =>
        obtain ⟨k, hk, rfl, rfl, hwr⟩ := hrel
        obtain rfl := hwr.symm
        clear hwr
        by_cases hk8 : k < 8
        · have hki : (k : Int) < 8 := by omega
          have hk0 : (0 : Int) ≤ k := by omega
          obtain ⟨x, hx⟩ : ∃ x, x = refC (s[i]'hlt).toNat k c := ⟨_, rfl⟩
          have hxl : x < 4294967296 := by rw [hx]; exact refC_lt _ HC.out.2 k
          have hb8 : (s[i]'hlt).toNat < 256 := UInt8.toNat_lt _
          rw [← hx]
          obtain ⟨y, hy⟩ : ∃ z, z = x ^^^ (s[i]'hlt).toNat / 2 ^ k := ⟨_, rfl⟩
          obtain ⟨xh, hxh⟩ : ∃ z, z = x / 2 := ⟨_, rfl⟩
          obtain ⟨z, hz⟩ : ∃ z, z = xh ^^^ polyN := ⟨_, rfl⟩
          have hb9 : (s[i]'hlt).toNat / 2 ^ k < 256 := Nat.lt_of_le_of_lt (Nat.div_le_self _ _) (by omega)
          have hyl : y < 4294967296 := by rw [hy]; exact Nat.xor_lt_two_pow (n := 32) (by omega) (by omega)
          have h1 : bits .xor .i64 (x : Int) (((s[i]'hlt).toNat : Int) / 2 ^ k) = (y : Int) := by
            rw [show ((s[i]'hlt).toNat : Int) / 2 ^ k = (((s[i]'hlt).toNat / 2 ^ k : Nat) : Int) by simp, i64_xor_nat _ _ (by omega) (by omega), hy]
          have h3 : bits .xor .i64 (xh : Int) 3988292384 = (z : Int) := by
            rw [show (3988292384 : Int) = ((3988292384 : Nat) : Int) from rfl, i64_xor_nat _ _ (by omega) (by decide), hz]
            rfl
          have h4 : (x : Int).tdiv 2 = (xh : Int) := by rw [hxh]; rfl
          have h5 : (x : Int) / 2 = (xh : Int) := by rw [hxh]; omega
          have HN : Hid (refC (s[i]'hlt).toNat (k + 1) c = xh ^^^ (if y % 2 = 1 then polyN else 0)) := by
            show (refC _ k c / 2) ^^^ (if (refC _ k c ^^^ _ / 2 ^ k) % 2 = 1 then polyN else 0) = _
            rw [← hx, ← hxh, ← hy]
          have HZ : Hid (z = xh ^^^ polyN) := hz
          clear hx hy hxh hz hb9
          by_cases hy1 : y % 2 = 1
          · have h2 : (y : Int).tmod 2 = 1 := by rw [Int.tmod_eq_emod_of_nonneg (by omega)]; omega
            have HN1 : Hid (refC (s[i]'hlt).toNat (k + 1) c = z) := by
              have := HN.out
              rw [if_pos hy1, ← HZ.out] at this
              exact this
            go_wp2_with fail
            go_roundw
            case rel => exact ⟨k + 1, hk8, by rw [HN1.out], by go_num, trivial⟩
            case measure => simp [intOf]; omega
          · have h2 : (y : Int).tmod 2 = 0 := by rw [Int.tmod_eq_emod_of_nonneg (by omega)]; omega
            have HN1 : Hid (refC (s[i]'hlt).toNat (k + 1) c = xh) := by
              have := HN.out
              rw [if_neg hy1, Nat.xor_zero] at this
              exact this
            go_wp2_with fail
            go_roundw
            case rel => exact ⟨k + 1, hk8, by rw [HN1.out], by go_num, trivial⟩
            case measure => simp [intOf]; omega
        · have hkn : k = 8 := by omega
          subst hkn
          have HE : Hid (refC (s[i]'hlt).toNat 8 c = restC (l.take (i + 1)) 4294967295) := by
            show _ = _
            rw [refC_bring, HC.out.1]
          rw [HE.out]
          go_wp2_with fail
          go_roundw
          case rel => exact ⟨i + 1, hlt, rfl, by go_num, trivial⟩
          case measure => simp [intOf]; omega
    · have his : i = s.size := by omega
      have h6 : bits .xor .i64 (c : Int) 4294967295 = ((crcD l : Nat) : Int) := by
        rw [show (4294967295 : Int) = ((4294967295 : Nat) : Int) from rfl, i64_xor_nat _ _ (by omega) (by decide), hc, his, ← HL.out.2, List.take_length]
        rfl
      clear hc his
      go_wp2_with fail
      go_ret
      exact ⟨rfl, rfl⟩
end Go.Proofs.YtbppimahedbpoaaDoor

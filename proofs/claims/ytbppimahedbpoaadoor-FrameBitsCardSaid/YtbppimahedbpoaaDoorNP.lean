/-
  The document's bytes, by contracts.
-/
import Derived.Test.YtbppimahedbpoaaDoorNO
namespace Go.Proofs.YtbppimahedbpoaaDoor
open Go.RowKit Go.Extern.Stop Go.Stop Go.Extern

theorem convert_byteF (x : Nat) (hx : x < 256) (w : World) : (convert 46 9 (.slice (some ⟨w.heap.size, 0, none⟩) 1 1)).run Tryd.prog (w.alloc (.cells #[.int .u8 (x : Int)] 5)) = .ok (.string (S [byteN x])) (w.alloc (.cells #[.int .u8 (x : Int)] 5)) := by
  have e : (byteN x).toNat = x := by rw [byteN_toNat]; omega
  exact run_convert_bytes_back (P := Tryd.prog) (w.alloc (.cells #[.int .u8 (x : Int)] 5)) 46 9 5 ⟨w.heap.size, 0, none⟩ 1 [byteN x] Tryd.underlying46 Tryd.underlying5 Tryd.underlying9 (fun j hj => by
    obtain rfl : j = 0 := by simpa using hj
    have e2 : (([byteN x][0]).toNat : Int) = (x : Int) := by
      show ((byteN x).toNat : Int) = _
      rw [e]
    rw [e2]
    simp [Addr.add])
set_option maxRecDepth 100000 in
set_option maxHeartbeats 1000000 in
theorem refByte_any (x : Nat) (hx : x < 256) (w : World) :
    Calls Tryd.prog 28 #[.int .i64 (x : Int)] w fun e w' => e = .returned (.string (S [byteN x])) ∧ Below w.heap.size w w' := by
  have hcv := convert_byteF x hx w
  obtain ⟨t, ht⟩ : ∃ t, t = S [byteN x] := ⟨_, rfl⟩
  rw [← ht] at hcv ⊢
  clear ht
  go_enter Tryd.func28, Tryd.ntmps28
  go_wp2_with fail
  go_ret
  exact ⟨rfl, (Below.refl _ _).alloc (Nat.le_refl _) _⟩
theorem byteN_mod (x : Nat) : byteN (x % 256) = byteN x := UInt8.toNat_inj.1 (by rw [byteN_toNat, byteN_toNat]; omega)
set_option maxRecDepth 100000 in
set_option maxHeartbeats 4000000 in
theorem refLow_any (c : Nat) (hc : c < 4294967296) (w : World) :
    Calls Tryd.prog 30 #[.int .i64 (c : Int)] w fun e w' => e = .returned (.string (S (lowD c))) ∧ Below w.heap.size w w' := by
  obtain ⟨x0, hx0⟩ : ∃ z, z = c % 256 := ⟨_, rfl⟩
  obtain ⟨y1, hy1⟩ : ∃ z, z = c / 256 := ⟨_, rfl⟩
  obtain ⟨x1, hx1⟩ : ∃ z, z = y1 % 256 := ⟨_, rfl⟩
  obtain ⟨y2, hy2⟩ : ∃ z, z = c / 65536 := ⟨_, rfl⟩
  obtain ⟨x2, hx2⟩ : ∃ z, z = y2 % 256 := ⟨_, rfl⟩
  obtain ⟨x3, hx3⟩ : ∃ z, z = c / 16777216 := ⟨_, rfl⟩
  have HE : Hid (S [byteN x0] ++ S [byteN x1] ++ S [byteN x2] ++ S [byteN x3] = S (lowD c)) := by
    show _ = _
    rw [S_append, S_append, S_append, hx0, hx1, hx2, hx3, hy1, hy2, byteN_mod, byteN_mod, byteN_mod]
    rfl
  have HK : Hid (∀ x, x < 256 → ∀ wx, Below w.heap.size w wx → Calls Tryd.prog 28 #[.int .i64 ((x : Nat) : Int)] wx fun e w' => e = .returned (.string (S [byteN x])) ∧ Below w.heap.size w w') := fun x hx wx hb => by
    refine (refByte_any x hx wx).mono ?_
    rintro e w' ⟨rfl, h⟩
    exact ⟨rfl, hb.trans (h.mono hb.size)⟩
  have h0 : (c : Int).tmod 256 = (x0 : Int) := by rw [Int.tmod_eq_emod_of_nonneg (by omega)]; omega
  have g1 : (c : Int).tdiv 256 = (y1 : Int) := by rw [hy1]; rfl
  have h1 : (y1 : Int).tmod 256 = (x1 : Int) := by rw [Int.tmod_eq_emod_of_nonneg (by omega)]; omega
  have g2 : (c : Int).tdiv 65536 = (y2 : Int) := by rw [hy2]; rfl
  have h2 : (y2 : Int).tmod 256 = (x2 : Int) := by rw [Int.tmod_eq_emod_of_nonneg (by omega)]; omega
  have h3 : (c : Int).tdiv 16777216 = (x3 : Int) := by rw [hx3]; rfl
  have b0 : x0 < 256 := by omega
  have b1 : x1 < 256 := by omega
  have b2 : x2 < 256 := by omega
  have b3 : x3 < 256 := by omega
  have i1 : (c : Int) / 256 = (y1 : Int) := by omega
  have i2 : (c : Int) / 65536 = (y2 : Int) := by omega
  have i3 : (c : Int) / 16777216 = (x3 : Int) := by omega
  clear hx0 hy1 hx1 hy2 hx2 hx3
  go_enter Tryd.func30, Tryd.ntmps30
  go_wp2_with fail
  refine (HK.out x0 b0 _ (Below.refl _ _)).mono ?_
  rintro e w1 ⟨rfl, hb1⟩
  go_wp2_with fail
  refine (HK.out x1 b1 _ hb1).mono ?_
  rintro e w2 ⟨rfl, hb2⟩
  go_wp2_with fail
  refine (HK.out x2 b2 _ hb2).mono ?_
  rintro e w3 ⟨rfl, hb3⟩
  go_wp2_with fail
  refine (HK.out x3 b3 _ hb3).mono ?_
  rintro e w4 ⟨rfl, hb4⟩
  have HB : Hid (Below w.heap.size w w4) := hb4
  clear hb1 hb2 hb3 hb4 HK
  go_wp2_with fail
  go_ret
  exact ⟨by rw [← HE.out]; rfl, HB.out⟩
set_option maxRecDepth 100000 in
set_option maxHeartbeats 4000000 in
theorem refHigh_any (c : Nat) (hc : c < 4294967296) (w : World) :
    Calls Tryd.prog 29 #[.int .i64 (c : Int)] w fun e w' => e = .returned (.string (S (highD 4 c))) ∧ Below w.heap.size w w' := by
  obtain ⟨x0, hx0⟩ : ∃ z, z = c % 256 := ⟨_, rfl⟩
  obtain ⟨y1, hy1⟩ : ∃ z, z = c / 256 := ⟨_, rfl⟩
  obtain ⟨x1, hx1⟩ : ∃ z, z = y1 % 256 := ⟨_, rfl⟩
  obtain ⟨y2, hy2⟩ : ∃ z, z = c / 65536 := ⟨_, rfl⟩
  obtain ⟨x2, hx2⟩ : ∃ z, z = y2 % 256 := ⟨_, rfl⟩
  obtain ⟨x3, hx3⟩ : ∃ z, z = c / 16777216 := ⟨_, rfl⟩
  have HE : Hid (S [byteN x3] ++ S [byteN x2] ++ S [byteN x1] ++ S [byteN x0] = S (highD 4 c)) := by
    show _ = _
    rw [S_append, S_append, S_append, high4, hx0, hx1, hx2, hx3, hy1, hy2, byteN_mod, byteN_mod, byteN_mod]
    rfl
  have HK : Hid (∀ x, x < 256 → ∀ wx, Below w.heap.size w wx → Calls Tryd.prog 28 #[.int .i64 ((x : Nat) : Int)] wx fun e w' => e = .returned (.string (S [byteN x])) ∧ Below w.heap.size w w') := fun x hx wx hb => by
    refine (refByte_any x hx wx).mono ?_
    rintro e w' ⟨rfl, h⟩
    exact ⟨rfl, hb.trans (h.mono hb.size)⟩
  have h0 : (c : Int).tmod 256 = (x0 : Int) := by rw [Int.tmod_eq_emod_of_nonneg (by omega)]; omega
  have g1 : (c : Int).tdiv 256 = (y1 : Int) := by rw [hy1]; rfl
  have h1 : (y1 : Int).tmod 256 = (x1 : Int) := by rw [Int.tmod_eq_emod_of_nonneg (by omega)]; omega
  have g2 : (c : Int).tdiv 65536 = (y2 : Int) := by rw [hy2]; rfl
  have h2 : (y2 : Int).tmod 256 = (x2 : Int) := by rw [Int.tmod_eq_emod_of_nonneg (by omega)]; omega
  have h3 : (c : Int).tdiv 16777216 = (x3 : Int) := by rw [hx3]; rfl
  have b0 : x0 < 256 := by omega
  have b1 : x1 < 256 := by omega
  have b2 : x2 < 256 := by omega
  have b3 : x3 < 256 := by omega
  have i1 : (c : Int) / 256 = (y1 : Int) := by omega
  have i2 : (c : Int) / 65536 = (y2 : Int) := by omega
  have i3 : (c : Int) / 16777216 = (x3 : Int) := by omega
  clear hx0 hy1 hx1 hy2 hx2 hx3
  go_enter Tryd.func29, Tryd.ntmps29
  go_wp2_with fail
  refine (HK.out x3 b3 _ (Below.refl _ _)).mono ?_
  rintro e w1 ⟨rfl, hb1⟩
  go_wp2_with fail
  refine (HK.out x2 b2 _ hb1).mono ?_
  rintro e w2 ⟨rfl, hb2⟩
  go_wp2_with fail
  refine (HK.out x1 b1 _ hb2).mono ?_
  rintro e w3 ⟨rfl, hb3⟩
  go_wp2_with fail
  refine (HK.out x0 b0 _ hb3).mono ?_
  rintro e w4 ⟨rfl, hb4⟩
  have HB : Hid (Below w.heap.size w w4) := hb4
  clear hb1 hb2 hb3 hb4 HK
  go_wp2_with fail
  go_ret
  exact ⟨by rw [← HE.out]; rfl, HB.out⟩
set_option maxRecDepth 100000 in
set_option maxHeartbeats 4000000 in
theorem refNumber_any (s : ByteArray) (hs : s.size = 4) (w : World) :
    Calls Tryd.prog 33 #[.string s] w fun e w' => e = .returned (.int .i64 ((bytesN s.data.toList : Nat) : Int)) ∧ w' = w := by
  obtain ⟨l, hl⟩ : ∃ l, l = s.data.toList := ⟨_, rfl⟩
  have HL : Hid (l.length = 4) := by show _ = _; rw [hl, ← Lib.size_eq]; exact hs
  have HG : Hid (∀ k (h : k < s.size), l.getD k 0 = s[k]) := fun k h => by rw [hl]; exact getD_dataN s k h
  rw [← hl]
  clear hl
  go_enter Tryd.func33, Tryd.ntmps33
  go_wp2_with fail
  go_loopw [3, 4] (fun t3 t4 wr => ∃ k : Nat, k ≤ 4 ∧ t3 = .int .i64 ((bytesN (l.take k) : Nat) : Int) ∧ t4 = .int .i64 (k : Int) ∧ wr = w) (fun _ t4 _ => (4 - intOf t4).toNat)
  case atStart => exact ⟨0, Nat.zero_le _, rfl, rfl, rfl⟩
  case round =>
    obtain ⟨k, hk, rfl, rfl, hwr⟩ := hrel
    obtain rfl := hwr.symm
    clear hwr
    by_cases hlt : k < 4
    · have hki : (k : Int) < 4 := by omega
      have hks : k < s.size := by omega
      have hksi : (k : Int) < s.size := by omega
      obtain ⟨x, hx⟩ : ∃ x, x = bytesN (l.take k) := ⟨_, rfl⟩
      have hxl : x < 16777216 := by
        rw [hx]
        have h1 := bytesN_lt (l.take k)
        have h2 : (256 : Nat) ^ (l.take k).length ≤ 256 ^ 3 := Nat.pow_le_pow_right (by decide) (by rw [List.length_take]; omega)
        omega
      have HX : Hid (bytesN (l.take (k + 1)) = 256 * x + (s[k]'hks).toNat) := by
        show _ = _
        rw [List.take_succ_eq_append_getElem (by rw [HL.out]; exact hlt), bytesN_snoc, ← hx]
        have := HG.out k hks
        simp [List.getD, HL.out, hlt] at this
        rw [this]
      have hy8 : (s[k]'hks).toNat < 256 := UInt8.toNat_lt _
      rw [← hx]
      clear hx
      go_wp2_with fail
      go_roundw
      case rel => exact ⟨k + 1, hlt, by rw [HX.out]; go_num, by go_num, trivial⟩
      case measure => simp [intOf]; omega
    · have hkn : k = 4 := by omega
      subst hkn
      have e0 : bytesN (l.take 4) = bytesN l := by rw [← HL.out, List.take_length]
      rw [e0]
      clear e0
      go_wp2_with fail
      go_ret
      exact ⟨rfl, rfl⟩
end Go.Proofs.YtbppimahedbpoaaDoor

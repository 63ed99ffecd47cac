/-
  The document's text of a set: SetText of package fingerpostref1; Text, Union, Less and Both where they tell an error.
-/
import Derived.Test.YtgmjmadacmgnkaaGreatDoorRefB
namespace Go.Proofs.YtgmjmadacmgnkaaGreatDoor
open Go.RowKit Go.Extern.Stop Go.Stop Go.Extern

theorem join_snoc (xs : List (List UInt8)) (x : List UInt8) : Lib.join (xs ++ [x]) [44] = if xs = [] then x else Lib.join xs [44] ++ [44] ++ x := by
  cases xs with
  | nil => simp [Lib.join_one]
  | cons y r =>
    rw [if_neg (by simp), List.cons_append, Lib.join_cons, Lib.join_cons]
    simp [Lib.joinTail]
theorem num_data (z : Int) : (num z).data.toList = Lib.itoa z := rfl
theorem data_append (a b : ByteArray) : (a ++ b).data.toList = a.data.toList ++ b.data.toList := by
  rw [ByteArray.data_append, Array.toList_append]
theorem ba_of_list (t : ByteArray) (l : List UInt8) (h : t.data.toList = l) : t = ⟨l.toArray⟩ := by
  apply ByteArray.ext
  rw [← h]

set_option maxRecDepth 100000 in
set_option maxHeartbeats 2000000 in
theorem refText (zs : List Int) (v : Value) (w : World) (hm : zs.length ≤ 10000) (h : IsInts w v zs) (hs : InB zs) :
    Calls Tryz.prog 17 #[v] w fun e w' => e = .returned (.string ⟨(setText zs).toArray⟩) ∧ Below w.heap.size w w' := by
  have H : Hid (IsInts w v zs) := h
  have HS : Hid (InB zs) := hs
  obtain ⟨va, vc, rfl⟩ := h.form
  clear h hs
  obtain ⟨n, hn⟩ : ∃ n, n = zs.length := ⟨_, rfl⟩
  rw [← hn] at H hm ⊢
  have HN : Hid (n = zs.length) := hn
  clear hn
  go_enter Tryz.func17, Tryz.ntmps17
  go_wp2_with fail
  go_loopw [3, 4] (fun u t wr => ∃ (k : Nat) (b : ByteArray), k ≤ n ∧ t = .int .i64 k ∧ u = .string b ∧ b.size ≤ 1 + 4 * k ∧ b.data.toList = [123] ++ Lib.join ((zs.take k).map Lib.itoa) [44] ∧ Below w.heap.size w wr) (fun _ t _ => (n - intOf t).toNat)
  case atStart => exact ⟨0, ⟨#[123]⟩, Nat.zero_le _, rfl, rfl, Nat.le_refl _, rfl, Below.refl _ _⟩
  case round =>
    obtain ⟨k, b, hk, rfl, rfl, hbs, hbd, hB⟩ := hrel
    have HBD : Hid (b.data.toList = [123] ++ Lib.join ((zs.take k).map Lib.itoa) [44]) := hbd
    clear hbd
    by_cases hlt : k < n
    · rcases H.out with ⟨hzn, _⟩ | ⟨hzn, bb, o, c, hv, hc⟩
      · exfalso; have := HN.out; rw [hzn] at this; simp at this; omega
      obtain rfl : va = some ⟨bb, o, none⟩ := by simpa using (Value.slice.inj hv).1
      have hkz : k < zs.length := by rw [← HN.out]; exact hlt
      have e1 := cell_keep hB (hc k hkz)
      have e2 := HS.out k hkz
      obtain ⟨z, hze⟩ : ∃ z, z = zs.getD k 0 := ⟨_, rfl⟩
      rw [← hze] at e1 e2
      have HZ : Hid (z = zs.getD k 0 ∧ k < zs.length ∧ 0 ≤ z ∧ z < 1000) := ⟨hze, hkz, e2.1, e2.2⟩
      have hnz : (num z).size ≤ 3 := by
        rw [Lib.size_eq, num_data]; exact itoa_le z e2.1 e2.2
      have hnext : (zs.take (k + 1)).map Lib.itoa = (zs.take k).map Lib.itoa ++ [Lib.itoa z] := by
        rw [take_succ_getD zs k hkz, List.map_append, ← hze]; rfl
      have HNX : Hid ((zs.take (k + 1)).map Lib.itoa = (zs.take k).map Lib.itoa ++ [Lib.itoa z]) := hnext
      clear hze hv hc hzn hkz e2 hnext
      by_cases h0 : k = 0
      · subst h0
        rw [Nat.add_zero] at e1
        go_wp2_with fail
        refine (decimal_any z HZ.out.2.2.1 HZ.out.2.2.2 _).mono ?_
        rintro e w1 ⟨rfl, hB1⟩
        obtain ⟨nz, hnze⟩ : ∃ nz, nz = num z := ⟨_, rfl⟩
        rw [← hnze] at hnz ⊢
        have HNZ : Hid (nz = num z) := hnze
        clear hnze
        go_wp2_with fail
        go_roundw
        case rel =>
          refine ⟨1, b ++ nz, by omega, by go_num, rfl, ?_, ?_, hB.trans (hB1.mono hB.size)⟩
          · rw [ByteArray.size_append]; omega
          · rw [data_append, HBD.out, HNX.out, HNZ.out, num_data, join_snoc]
            simp [Lib.join_nil]
        case measure => simp [intOf]; omega
      · have hp : 0 < (k : Int) := by omega
        go_wp2_with fail
        refine (decimal_any z HZ.out.2.2.1 HZ.out.2.2.2 _).mono ?_
        rintro e w1 ⟨rfl, hB1⟩
        obtain ⟨nz, hnze⟩ : ∃ nz, nz = num z := ⟨_, rfl⟩
        rw [← hnze] at hnz ⊢
        have HNZ : Hid (nz = num z) := hnze
        clear hnze
        go_wp2_with fail
        go_roundw
        case rel =>
          refine ⟨k + 1, b ++ ⟨#[44]⟩ ++ nz, by omega, by go_num, rfl, ?_, ?_, hB.trans (hB1.mono hB.size)⟩
          · rw [ByteArray.size_append, ByteArray.size_append]
            have : (⟨#[44]⟩ : ByteArray).size = 1 := rfl
            omega
          · rw [data_append, data_append, HBD.out, HNX.out, HNZ.out, num_data, join_snoc, if_neg]
            · simp
            · intro e
              have e3 := congrArg List.length e
              rw [List.length_map, List.length_take, List.length_nil] at e3
              have := HZ.out.2.1
              omega
        case measure => simp [intOf]; omega
    · have hbs2 : b.size ≤ 50000 := by omega
      go_wp2_with fail
      go_ret
      refine ⟨?_, hB⟩
      have hkn : k = zs.length := by rw [← HN.out]; omega
      show Ending.returned (.string (b ++ ⟨#[125]⟩)) = _
      rw [ba_of_list (b ++ ⟨#[125]⟩) (setText zs)]
      rw [data_append, HBD.out, hkn, List.take_length]
      rfl

/-- Text of what is no set. -/
theorem text_no (x : Addr) (v : Value) (w : World) (hc : Calls Tryz.prog 11 #[v] w fun e w' => e = .returned (.iface 161 (.pointer (some x))) ∧ Below w.heap.size w w') :
    Calls Tryz.prog 20 #[v] w fun e w' => e = .returned (.string ⟨#[]⟩) ∧ Below w.heap.size w w' := by
  have HC : Hid (Calls Tryz.prog 11 #[v] w fun e w' => e = .returned (.iface 161 (.pointer (some x))) ∧ Below w.heap.size w w') := hc
  clear hc
  go_enter Tryz.func20, Tryz.ntmps20
  go_wp2_with fail
  refine HC.out.mono ?_
  rintro e w1 ⟨rfl, hB⟩
  go_wp2
  go_ret
  exact ⟨rfl, hB⟩

/-- checkPair where the first is no set. -/
theorem pair_first (x : Addr) (u v : Value) (w : World) (hc : Calls Tryz.prog 11 #[u] w fun e w' => e = .returned (.iface 161 (.pointer (some x))) ∧ Below w.heap.size w w') :
    Calls Tryz.prog 21 #[u, v] w fun e w' => e = .returned (.iface 161 (.pointer (some x))) ∧ Below w.heap.size w w' := by
  have HC : Hid (Calls Tryz.prog 11 #[u] w fun e w' => e = .returned (.iface 161 (.pointer (some x))) ∧ Below w.heap.size w w') := hc
  clear hc
  go_enter Tryz.func21, Tryz.ntmps21
  go_wp2_with fail
  refine HC.out.mono ?_
  rintro e w1 ⟨rfl, hB⟩
  go_wp2
  go_ret
  exact ⟨rfl, hB⟩
/-- checkPair where the second alone is no set. -/
theorem pair_second (x : Addr) (u v : Value) (w : World) (hc : Calls Tryz.prog 11 #[u] w fun e w' => e = .returned .nilIface ∧ Below w.heap.size w w')
    (hd : ∀ w1, Below w.heap.size w w1 → Calls Tryz.prog 11 #[v] w1 fun e w' => e = .returned (.iface 161 (.pointer (some x))) ∧ Below w1.heap.size w1 w') :
    Calls Tryz.prog 21 #[u, v] w fun e w' => e = .returned (.iface 161 (.pointer (some x))) ∧ Below w.heap.size w w' := by
  have HC : Hid (Calls Tryz.prog 11 #[u] w fun e w' => e = .returned .nilIface ∧ Below w.heap.size w w') := hc
  have HD : Hid (∀ w1, Below w.heap.size w w1 → Calls Tryz.prog 11 #[v] w1 fun e w' => e = .returned (.iface 161 (.pointer (some x))) ∧ Below w1.heap.size w1 w') := hd
  clear hc hd
  go_enter Tryz.func21, Tryz.ntmps21
  go_wp2_with fail
  refine HC.out.mono ?_
  rintro e w1 ⟨rfl, hB⟩
  go_wp2_with fail
  refine (HD.out w1 hB).mono ?_
  rintro e w2 ⟨rfl, hB2⟩
  go_wp2
  go_ret
  exact ⟨rfl, hB.trans (hB2.mono hB.size)⟩
theorem union_no (x : Addr) (u v : Value) (w : World) (hc : Calls Tryz.prog 21 #[u, v] w fun e w' => e = .returned (.iface 161 (.pointer (some x))) ∧ Below w.heap.size w w') :
    Calls Tryz.prog 7 #[u, v] w fun e w' => e = .returned (.tuple #[.slice none 0 0, .iface 161 (.pointer (some x))]) ∧ Below w.heap.size w w' := by
  have HC : Hid (Calls Tryz.prog 21 #[u, v] w fun e w' => e = .returned (.iface 161 (.pointer (some x))) ∧ Below w.heap.size w w') := hc
  clear hc
  go_enter Tryz.func7, Tryz.ntmps7
  go_wp2_with fail
  refine HC.out.mono ?_
  rintro e w1 ⟨rfl, hB⟩
  go_wp2
  go_ret2
  exact ⟨rfl, hB⟩
theorem less_no (x : Addr) (u v : Value) (w : World) (hv : ∃ a n c, v = .slice a n c) (hc : ∀ w1, Below w.heap.size w w1 → Calls Tryz.prog 21 #[u, v] w1 fun e w' => e = .returned (.iface 161 (.pointer (some x))) ∧ Below w1.heap.size w1 w') :
    Calls Tryz.prog 8 #[u, v] w fun e w' => e = .returned (.tuple #[.slice none 0 0, .iface 161 (.pointer (some x))]) ∧ Below w.heap.size w w' := by
  obtain ⟨va, vn, vc, rfl⟩ := hv
  have HC : Hid (∀ w1, Below w.heap.size w w1 → Calls Tryz.prog 21 #[u, .slice va vn vc] w1 fun e w' => e = .returned (.iface 161 (.pointer (some x))) ∧ Below w1.heap.size w1 w') := hc
  clear hc
  have hB0 := fun o => (Below.refl w.heap.size w).alloc (Nat.le_refl _) o
  go_enter Tryz.func8, Tryz.ntmps8
  go_wp2_with fail
  refine (HC.out _ (hB0 _)).mono ?_
  rintro e w1 ⟨rfl, hB⟩
  have hBw : Below w.heap.size w w1 := (hB0 _).trans (hB.mono (by simp))
  clear hB hB0
  go_wp2
  go_ret2
  exact ⟨rfl, hBw⟩
theorem both_no (x : Addr) (u v : Value) (w : World) (hv : ∃ a n c, v = .slice a n c) (hc : ∀ w1, Below w.heap.size w w1 → Calls Tryz.prog 21 #[u, v] w1 fun e w' => e = .returned (.iface 161 (.pointer (some x))) ∧ Below w1.heap.size w1 w') :
    Calls Tryz.prog 9 #[u, v] w fun e w' => e = .returned (.tuple #[.slice none 0 0, .iface 161 (.pointer (some x))]) ∧ Below w.heap.size w w' := by
  obtain ⟨va, vn, vc, rfl⟩ := hv
  have HC : Hid (∀ w1, Below w.heap.size w w1 → Calls Tryz.prog 21 #[u, .slice va vn vc] w1 fun e w' => e = .returned (.iface 161 (.pointer (some x))) ∧ Below w1.heap.size w1 w') := hc
  clear hc
  have hB0 := fun o => (Below.refl w.heap.size w).alloc (Nat.le_refl _) o
  go_enter Tryz.func9, Tryz.ntmps9
  go_wp2_with fail
  refine (HC.out _ (hB0 _)).mono ?_
  rintro e w1 ⟨rfl, hB⟩
  have hBw : Below w.heap.size w w1 := (hB0 _).trans (hB.mono (by simp))
  clear hB hB0
  go_wp2
  go_ret2
  exact ⟨rfl, hBw⟩
end Go.Proofs.YtgmjmadacmgnkaaGreatDoor

/-
  Package frame: Check, and a text that is written, by contracts.
-/
import Derived.Test.YtbppimahedbpoaaDoorNC
namespace Go.Proofs.YtbppimahedbpoaaDoor
open Go.RowKit Go.Extern.Stop Go.Stop Go.Extern

theorem take_succ_getD (zs : List Int) (k : Nat) (h : k < zs.length) : zs.take (k + 1) = zs.take k ++ [zs.getD k 0] := by
  rw [List.take_succ_eq_append_getElem h]
  simp [List.getD, h]
theorem any_take_succ (p : Int → Bool) (zs : List Int) (k : Nat) (h : k < zs.length) (h1 : (zs.take k).any p = false) (h2 : p (zs.getD k 0) = false) : (zs.take (k + 1)).any p = false := by
  rw [take_succ_getD zs k h, List.any_append, h1]
  simpa using h2
theorem any_at (p : Int → Bool) (zs : List Int) (k : Nat) (h : k < zs.length) (h2 : p (zs.getD k 0) = true) : zs.any p = true :=
  List.any_eq_true.2 ⟨zs[k], List.getElem_mem h, by simpa [List.getD, h] using h2⟩

set_option maxHeartbeats 1000000 in
theorem indexFunc_any (p : Int → Bool) (zs : List Int) (v : Value) (w : World) (hm : zs.length ≤ 1000000) (h : IsInts w v zs)
    (hcl : ∀ wr x, Below w.heap.size w wr → Calls Tryd.prog 27 #[.int .i64 x] wr fun e w' => e = .returned (.bool (p x)) ∧ Below wr.heap.size wr w') :
    Calls Tryd.prog 39 #[v, .func (Fn.func 27) #[] #[]] w fun e w' => ∃ r : Int, e = .returned (.int .i64 r) ∧ ((0 ≤ r ∧ zs.any p = true) ∨ (r = -1 ∧ zs.any p = false)) ∧ Below w.heap.size w w' := by
  have HCL : Hid (∀ wr x, Below w.heap.size w wr → Calls Tryd.prog 27 #[.int .i64 x] wr fun e w' => e = .returned (.bool (p x)) ∧ Below wr.heap.size wr w') := hcl
  clear hcl
  rcases h with ⟨hz, a, c, rfl⟩ | ⟨hz, b, o, c, rfl, hc⟩
  · subst hz
    go_enter Tryd.func39, Tryd.ntmps39
    go_wp2_with fail
    go_loopw [8] (fun t wr => t = .int .i64 0 ∧ wr = w) (fun _ _ => 0)
    case atStart => exact ⟨rfl, rfl⟩
    case round =>
      obtain ⟨rfl, rfl⟩ := hrel
      go_wp2_with fail
      go_ret
      exact ⟨-1, rfl, Or.inr ⟨rfl, rfl⟩, Below.refl _ _⟩
  · have HC : Hid (∀ j, j < zs.length → w.cell? ⟨b, o + j, none⟩ = some (.int .i64 (zs.getD j 0))) := hc
    clear hc hz
    generalize hn : zs.length = n at *
    have HN : Hid (zs.length = n) := hn
    clear hn
    go_enter Tryd.func39, Tryd.ntmps39
    go_wp2_with fail
    go_loopw [8] (fun t wr => ∃ k : Nat, k ≤ n ∧ t = .int .i64 k ∧ (zs.take k).any p = false ∧ Below w.heap.size w wr) (fun t _ => (n - intOf t).toNat)
    case atStart => exact ⟨0, Nat.zero_le _, rfl, rfl, Below.refl _ _⟩
    case round =>
      obtain ⟨k, hk, rfl, hall, hB⟩ := hrel
      have HA : Hid ((zs.take k).any p = false) := hall
      clear hall
      by_cases hlt : k < n
      · have e1 := cell_keep hB (HC.out k hlt)
        obtain ⟨z, hze⟩ : ∃ z, z = zs.getD k 0 := ⟨_, rfl⟩
        rw [← hze] at e1
        have HZ : Hid (z = zs.getD k 0) := hze
        clear hze
        go_wp2_with fail
        refine (HCL.out wr z hB).mono ?_
        rintro e w1 ⟨rfl, hB1⟩
        have hBw : Below w.heap.size w w1 := hB.trans (hB1.mono hB.size)
        clear hB1
        cases hpz : p z with
        | true =>
          have HP : Hid (zs.any p = true) := any_at p zs k (by rw [HN.out]; exact hlt) (by rw [← HZ.out]; exact hpz)
          clear hpz
          go_wp2_with fail
          go_ret
          exact ⟨k, rfl, Or.inl ⟨by omega, HP.out⟩, hBw⟩
        | false =>
          have HP : Hid ((zs.take (k + 1)).any p = false) := any_take_succ p zs k (by rw [HN.out]; exact hlt) HA.out (by rw [← HZ.out]; exact hpz)
          clear hpz
          go_wp2_with fail
          go_roundw
          case rel => exact ⟨k + 1, hlt, by go_num, HP.out, hBw⟩
          case measure => simp [intOf]; omega
      · go_wp2_with fail
        go_ret
        refine ⟨-1, rfl, Or.inr ⟨rfl, ?_⟩, hB⟩
        have hkn : k = zs.length := by rw [HN.out]; omega
        have := HA.out
        rw [hkn, List.take_length] at this
        exact this

theorem containsFunc_any (p : Int → Bool) (zs : List Int) (v : Value) (w : World) (hm : zs.length ≤ 1000000) (h : IsInts w v zs)
    (hcl : ∀ wr x, Below w.heap.size w wr → Calls Tryd.prog 27 #[.int .i64 x] wr fun e w' => e = .returned (.bool (p x)) ∧ Below wr.heap.size wr w') :
    Calls Tryd.prog 26 #[v, .func (Fn.func 27) #[] #[]] w fun e w' => e = .returned (.bool (zs.any p)) ∧ Below w.heap.size w w' := by
  have HK := indexFunc_any p zs v w hm h hcl
  have HK' : Hid (Calls Tryd.prog 39 #[v, .func (Fn.func 27) #[] #[]] w fun e w' => ∃ r : Int, e = .returned (.int .i64 r) ∧ ((0 ≤ r ∧ zs.any p = true) ∨ (r = -1 ∧ zs.any p = false)) ∧ Below w.heap.size w w') := HK
  clear HK hcl h hm
  obtain ⟨B, hBe⟩ : ∃ B, B = zs.any p := ⟨_, rfl⟩
  rw [← hBe] at HK' ⊢
  clear hBe
  go_enter Tryd.func26, Tryd.ntmps26
  go_wp2_with fail
  refine HK'.out.mono ?_
  rintro e w1 ⟨r, rfl, hr, hB⟩
  rcases hr with ⟨h1, rfl⟩ | ⟨rfl, rfl⟩
  · go_wp2
    go_ret
    exact ⟨rfl, hB⟩
  · go_wp2
    go_ret
    exact ⟨rfl, hB⟩

theorem isKind_any (k : Int) (w : World) : Calls Tryd.prog 23 #[.int .u8 k] w fun e w' => e = .returned (.bool (isKindB k)) ∧ w' = w := by
  unfold isKindB
  by_cases h1 : k = 100
  · subst h1
    go_enter Tryd.func23, Tryd.ntmps23
    go_wp2
    go_ret
    exact ⟨rfl, rfl⟩
  by_cases h2 : k = 101
  · subst h2
    go_enter Tryd.func23, Tryd.ntmps23
    go_wp2
    go_ret
    exact ⟨rfl, rfl⟩
  by_cases h3 : k = 116
  · subst h3
    go_enter Tryd.func23, Tryd.ntmps23
    go_wp2
    go_ret
    exact ⟨rfl, rfl⟩
  by_cases h4 : k = 97
  · subst h4
    go_enter Tryd.func23, Tryd.ntmps23
    go_wp2
    go_ret
    exact ⟨rfl, rfl⟩
  have e : (k == 100 || (k == 101 || (k == 116 || k == 97))) = false := by simp [h1, h2, h3, h4]
  rw [e]
  clear e
  go_enter Tryd.func23, Tryd.ntmps23
  go_wp2
  go_ret
  exact ⟨rfl, rfl⟩
theorem isPeer_any (n : Int) (w : World) : Calls Tryd.prog 24 #[.int .i64 n] w fun e w' => e = .returned (.bool (isPeerB n)) ∧ w' = w := by
  unfold isPeerB
  by_cases h0 : 0 ≤ n
  · by_cases h1 : n < 6
    · rw [decide_eq_true h0, decide_eq_true h1]
      go_enter Tryd.func24, Tryd.ntmps24
      go_wp2_with fail
      go_ret
      exact ⟨rfl, rfl⟩
    · rw [decide_eq_true h0, decide_eq_false h1]
      go_enter Tryd.func24, Tryd.ntmps24
      go_wp2_with fail
      go_ret
      exact ⟨rfl, rfl⟩
  · rw [decide_eq_false h0]
    go_enter Tryd.func24, Tryd.ntmps24
    go_wp2_with fail
    go_ret
    exact ⟨rfl, rfl⟩
theorem isNumber_any (n : Int) (w : World) : Calls Tryd.prog 25 #[.int .i64 n] w fun e w' => e = .returned (.bool (isNumB n)) ∧ w' = w := by
  unfold isNumB
  by_cases h0 : 0 ≤ n
  · by_cases h1 : n ≤ 2147483648
    · rw [decide_eq_true h0, decide_eq_true h1]
      go_enter Tryd.func25, Tryd.ntmps25
      go_wp2_with fail
      go_ret
      exact ⟨rfl, rfl⟩
    · rw [decide_eq_true h0, decide_eq_false h1]
      go_enter Tryd.func25, Tryd.ntmps25
      go_wp2_with fail
      go_ret
      exact ⟨rfl, rfl⟩
  · rw [decide_eq_false h0]
    go_enter Tryd.func25, Tryd.ntmps25
    go_wp2_with fail
    go_ret
    exact ⟨rfl, rfl⟩
theorem checkNum_any (n : Int) (w : World) : Calls Tryd.prog 27 #[.int .i64 n] w fun e w' => e = .returned (.bool (!isNumB n)) ∧ Below w.heap.size w w' := by
  have K : Hid (Calls Tryd.prog 25 #[.int .i64 n] w fun e w' => e = .returned (.bool (isNumB n)) ∧ w' = w) := isNumber_any n w
  obtain ⟨D, hD⟩ : ∃ D, D = isNumB n := ⟨_, rfl⟩
  rw [← hD] at K ⊢
  clear hD
  cases D with
  | true =>
    go_enter Tryd.func27, Tryd.ntmps27
    go_wp2_with (go_at_call 25; refine K.out.mono ?_; rintro e w1 ⟨rfl, hw⟩; obtain rfl := hw.symm)
    go_ret
    exact ⟨rfl, Below.refl _ _⟩
  | false =>
    go_enter Tryd.func27, Tryd.ntmps27
    go_wp2_with (go_at_call 25; refine K.out.mono ?_; rintro e w1 ⟨rfl, hw⟩; obtain rfl := hw.symm)
    go_ret
    exact ⟨rfl, Below.refl _ _⟩
abbrev TFr : TypeId := 26
abbrev frameV (f : FrameD) (nv : Value) : Value := .agg #[.int .u8 f.kind, .int .i64 f.frm, .int .i64 f.to, .int .i64 f.seq, nv]
def errV (a : Nat → Addr) : Option Nat → Value
  | none => .nilIface
  | some i => .iface 106 (.pointer (some (a i)))
end Go.Proofs.YtbppimahedbpoaaDoor

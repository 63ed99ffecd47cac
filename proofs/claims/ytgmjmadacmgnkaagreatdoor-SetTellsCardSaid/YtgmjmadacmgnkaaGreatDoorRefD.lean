/-
  The document's number of a text: NumberOf of package fingerpostref1, by contracts.
-/
import Derived.Test.YtgmjmadacmgnkaaGreatDoorReadA
namespace Go.Proofs.YtgmjmadacmgnkaaGreatDoor
open Go.RowKit Go.Extern.Stop Go.Stop Go.Extern Go.Sort

set_option maxHeartbeats 1000000 in
theorem refNum_head (s : ByteArray) (w : World) (h : ¬ HeadOk s.data.toList) :
    Calls Tryz.prog 37 #[.string s, .int .i64 9] w fun e w' => e = .returned (.int .i64 (-1)) ∧ w' = w := by
  by_cases h0 : s.size = 0
  · have e0 : (s.size : Int) < 1 := by omega
    clear h h0
    go_enter Tryz.func37, Tryz.ntmps37
    go_wp2
    go_ret
    exact ⟨rfl, rfl⟩
  · have e0 : 1 ≤ (s.size : Int) := by omega
    by_cases h9 : 9 < (s.size : Int)
    · clear h h0
      go_enter Tryz.func37, Tryz.ntmps37
      go_wp2
      go_ret
      exact ⟨rfl, rfl⟩
    · have hp : 0 < s.size := by omega
      have hx : 1 < s.size ∧ s[0] = 48 := by
        by_cases g : 1 < s.size ∧ s[0] = 48
        · exact g
        · refine absurd ⟨?_, ?_, ?_⟩ h
          · intro e; rw [Lib.size_eq, e] at hp; simp at hp
          · rw [← Lib.size_eq]; omega
          · rw [← Lib.size_eq, headD_data s hp]; exact g
      have e1 : 1 < (s.size : Int) := by omega
      have e2 : ((s[0].toNat : Int) == 48) = true := by rw [byte48, hx.2]; rfl
      have e9 : (s.size : Int) ≤ 9 := by omega
      clear h h0 h9 hx
      go_enter Tryz.func37, Tryz.ntmps37
      go_wp2
      go_ret
      exact ⟨rfl, rfl⟩

set_option maxHeartbeats 2000000 in
theorem refNum_ok (s : ByteArray) (w : World) (h : HeadOk s.data.toList) (hd : AllD s.data.toList) :
    Calls Tryz.prog 37 #[.string s, .int .i64 9] w fun e w' => e = .returned (.int .i64 (val s.data.toList)) ∧ w' = w := by
  have hp : 0 < s.size := by
    rw [Lib.size_eq]; exact List.length_pos_iff.2 h.1
  have e0 : 1 ≤ (s.size : Int) := by omega
  have e9 : (s.size : Int) ≤ 9 := by have := h.2.1; rw [← Lib.size_eq] at this; omega
  have HD : Hid (AllD s.data.toList) := hd
  have hx : ¬ (1 < s.size ∧ s[0] = 48) := by
    have := h.2.2
    rw [← Lib.size_eq, headD_data s hp] at this
    exact this
  have main : ((s.size : Int) ≤ 1 ∨ (1 < (s.size : Int) ∧ ((s[0].toNat : Int) == 48) = false)) → Calls Tryz.prog 37 #[.string s, .int .i64 9] w fun e w' => e = .returned (.int .i64 (val s.data.toList)) ∧ w' = w := by
    clear h hd hx
    rintro (e1 | ⟨e1, e2⟩)
    all_goals
      go_enter Tryz.func37, Tryz.ntmps37
      go_wp2
      go_loop [5, 6] (fun n i => ∃ k : Nat, k ≤ s.size ∧ i = .int .i64 k ∧ n = .int .i64 (val (s.data.toList.take k))) (fun _ i => s.size - (intOf i).toNat)
      case atStart => exact ⟨0, Nat.zero_le _, rfl, rfl⟩
      case round =>
        obtain ⟨k, hk, rfl, rfl⟩ := hrel
        have hv := val_small s.data.toList HD.out k (by rw [← Lib.size_eq]; exact hk) (by omega)
        obtain ⟨nv, hnv⟩ : ∃ nv, nv = val (s.data.toList.take k) := ⟨_, rfl⟩
        rw [← hnv] at hv ⊢
        have HV : Hid (nv = val (s.data.toList.take k)) := hnv
        obtain ⟨hv0, hv1⟩ := hv
        clear hnv
        by_cases hlt : k < s.size
        · have hd2 : Digit s[k] := HD.out _ (by
            have hl : k < s.data.toList.length := by rw [← Lib.size_eq]; exact hlt
            exact List.getElem_mem hl)
          obtain ⟨d0, d1⟩ := hd2
          go_wp2
          go_round
          case rel => exact ⟨k + 1, hlt, by go_num, by rw [take_snoc s k hlt, val_snoc, ← HV.out, Int.mul_comm]⟩
          case measure => simp [intOf]; omega
        · go_wp2
          go_ret
          have hks : k = s.data.toList.length := by rw [← Lib.size_eq]; omega
          refine ⟨?_, rfl⟩
          have hfin : val s.data.toList = nv := by rw [HV.out, hks, List.take_length]
          rw [hfin]
          rfl
  by_cases e1 : (s.size : Int) ≤ 1
  · exact main (Or.inl e1)
  · refine main (Or.inr ⟨by omega, ?_⟩)
    rw [byte48]
    exact decide_eq_false (fun e => hx ⟨by omega, e⟩)

set_option maxHeartbeats 2000000 in
theorem refNum_bad (s : ByteArray) (w : World) (h : HeadOk s.data.toList) (hd : ¬ AllD s.data.toList) :
    Calls Tryz.prog 37 #[.string s, .int .i64 9] w fun e w' => e = .returned (.int .i64 (-1)) ∧ w' = w := by
  have hp : 0 < s.size := by
    rw [Lib.size_eq]; exact List.length_pos_iff.2 h.1
  have e0 : 1 ≤ (s.size : Int) := by omega
  have e9 : (s.size : Int) ≤ 9 := by have := h.2.1; rw [← Lib.size_eq] at this; omega
  have HD : Hid (¬ AllD s.data.toList) := hd
  have hx : ¬ (1 < s.size ∧ s[0] = 48) := by
    have := h.2.2
    rw [← Lib.size_eq, headD_data s hp] at this
    exact this
  have main : ((s.size : Int) ≤ 1 ∨ (1 < (s.size : Int) ∧ ((s[0].toNat : Int) == 48) = false)) → Calls Tryz.prog 37 #[.string s, .int .i64 9] w fun e w' => e = .returned (.int .i64 (-1)) ∧ w' = w := by
    clear h hd hx
    rintro (e1 | ⟨e1, e2⟩)
    all_goals
      go_enter Tryz.func37, Tryz.ntmps37
      go_wp2
      go_loop [5, 6] (fun n i => ∃ k : Nat, k ≤ s.size ∧ i = .int .i64 k ∧ (∀ b ∈ s.data.toList.take k, Digit b) ∧ n = .int .i64 (val (s.data.toList.take k))) (fun _ i => s.size - (intOf i).toNat)
      case atStart => exact ⟨0, Nat.zero_le _, rfl, (fun b hb => by simp at hb), rfl⟩
      case round =>
        obtain ⟨k, hk, rfl, hall, rfl⟩ := hrel
        have HA : Hid (∀ b ∈ s.data.toList.take k, Digit b) := hall
        have hkl : k ≤ s.data.toList.length := by rw [← Lib.size_eq]; exact hk
        have hv : 0 ≤ val (s.data.toList.take k) ∧ val (s.data.toList.take k) < 1000000000 := by
          have := val_small (s.data.toList.take k) hall k (by rw [List.length_take]; omega) (by omega)
          rw [List.take_take, Nat.min_self] at this
          exact this
        clear hall hkl
        obtain ⟨nv, hnv⟩ : ∃ nv, nv = val (s.data.toList.take k) := ⟨_, rfl⟩
        rw [← hnv] at hv ⊢
        have HV : Hid (nv = val (s.data.toList.take k)) := hnv
        obtain ⟨hv0, hv1⟩ := hv
        clear hnv
        by_cases hlt : k < s.size
        · by_cases hdk : Digit s[k]
          · have HK : Hid (Digit s[k]) := hdk
            obtain ⟨d0, d1⟩ := hdk
            go_wp2
            go_round
            case rel =>
              refine ⟨k + 1, hlt, by go_num, ?_, by rw [take_snoc s k hlt, val_snoc, ← HV.out, Int.mul_comm]⟩
              rw [take_snoc s k hlt]
              intro b hb
              rcases List.mem_append.1 hb with g | g
              · exact HA.out b g
              · rw [List.mem_singleton.1 g]; exact HK.out
            case measure => simp [intOf]; omega
          · have hdk2 : ((s[k].toNat : Int) < 48) ∨ (57 < (s[k].toNat : Int)) := by
              unfold Digit at hdk; omega
            clear hdk
            rcases hdk2 with d | d
            · go_wp2
              go_ret
              exact ⟨rfl, rfl⟩
            · have d2 : ¬ ((s[k].toNat : Int) < 48) := by omega
              go_wp2
              go_ret
              exact ⟨rfl, rfl⟩
        · have hks : k = s.data.toList.length := by rw [← Lib.size_eq]; omega
          have := HA.out
          rw [hks, List.take_length] at this
          exact absurd this HD.out
  by_cases e1 : (s.size : Int) ≤ 1
  · exact main (Or.inl e1)
  · refine main (Or.inr ⟨by omega, ?_⟩)
    rw [byte48]
    exact decide_eq_false (fun e => hx ⟨by omega, e⟩)

end Go.Proofs.YtgmjmadacmgnkaaGreatDoor

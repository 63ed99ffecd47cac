/-
  Package set: readNumber, by contracts.
-/
import Derived.Test.YtgmjmadacmgnkaaGreatDoorSetE
namespace Go.Proofs.YtgmjmadacmgnkaaGreatDoor
open Go.RowKit Go.Extern.Stop Go.Stop Go.Extern Go.Sort

/-- What a text of a number may be, but for its bytes. -/
def HeadOk (l : List UInt8) : Prop := l ≠ [] ∧ l.length ≤ 9 ∧ ¬ (1 < l.length ∧ l.headD 0 = 48)
def Digit (b : UInt8) : Prop := 48 ≤ (b.toNat : Int) ∧ (b.toNat : Int) ≤ 57
def AllD (l : List UInt8) : Prop := ∀ b ∈ l, Digit b
def val (l : List UInt8) : Int := l.foldl (fun n b => n * 10 + ((b.toNat : Int) - 48)) 0

theorem val_snoc (l : List UInt8) (b : UInt8) : val (l ++ [b]) = val l * 10 + ((b.toNat : Int) - 48) := by
  unfold val; rw [List.foldl_append]; rfl
theorem val_bound (l : List UInt8) (h : AllD l) : ∀ k, k ≤ l.length → 0 ≤ val (l.take k) ∧ val (l.take k) < 10 ^ k := by
  intro k
  induction k with
  | zero => intro _; simp [val]
  | succ k ih =>
    intro hk
    have h1 := ih (by omega)
    have hkl : k < l.length := by omega
    have h2 := h l[k] (List.getElem_mem hkl)
    unfold Digit at h2
    rw [List.take_succ_eq_append_getElem hkl, val_snoc, Int.pow_succ]
    omega
theorem pow_le_nine (k : Nat) (h : k ≤ 9) : (10 : Int) ^ k ≤ 1000000000 := by
  match k, h with
  | 0, _ => decide
  | 1, _ => decide
  | 2, _ => decide
  | 3, _ => decide
  | 4, _ => decide
  | 5, _ => decide
  | 6, _ => decide
  | 7, _ => decide
  | 8, _ => decide
  | 9, _ => decide
  | n + 10, h => exact absurd h (by omega)
theorem val_small (l : List UInt8) (h : AllD l) (k : Nat) (hk : k ≤ l.length) (hl : k ≤ 9) : 0 ≤ val (l.take k) ∧ val (l.take k) < 1000000000 := by
  have h1 := val_bound l h k hk
  have h2 := pow_le_nine k hl
  omega

theorem isEmpty_iff (s : ByteArray) : s.toList.isEmpty = decide (s.size = 0) := by
  rw [Lib.toList_data, Lib.size_eq]
  cases s.data.toList <;> simp
theorem headD_data (s : ByteArray) (h : 0 < s.size) : s.data.toList.headD 0 = s[0] := by
  have hl : 0 < s.data.toList.length := by rw [← Lib.size_eq]; exact h
  rw [List.headD_eq_head?_getD, List.head?_eq_getElem?, List.getElem?_eq_getElem hl]
  rfl
theorem byte48 (b : UInt8) : ((b.toNat : Int) == 48) = decide (b = 48) := by
  rw [Bool.eq_iff_iff]
  simp only [beq_iff_eq, decide_eq_true_eq]
  constructor
  · intro h
    have h2 : b.toNat = 48 := by omega
    exact UInt8.toNat_inj.1 (by simpa using h2)
  · intro h; rw [h]; rfl

set_option maxHeartbeats 1000000 in
theorem rn_head (s : ByteArray) (w : World) (h : ¬ HeadOk s.data.toList) :
    Calls Tryz.prog 53 #[.string s] w fun e w' => e = .returned (.tuple #[.int .i64 0, .bool false]) ∧ w' = w := by
  have he := isEmpty_iff s
  by_cases h0 : s.size = 0
  · have e0 : s.toList.isEmpty = true := by rw [he]; simp [h0]
    clear he h h0
    go_enter Tryz.func53, Tryz.ntmps53
    go_wp2
    go_ret2
    exact ⟨rfl, rfl⟩
  · have e0 : s.toList.isEmpty = false := by rw [he]; simp [h0]
    clear he
    by_cases h9 : 9 < (s.size : Int)
    · clear h h0
      go_enter Tryz.func53, Tryz.ntmps53
      go_wp2
      go_ret2
      exact ⟨rfl, rfl⟩
    · have hp : 0 < s.size := by omega
      have hx : 1 < s.size ∧ s[0] = 48 := by
        by_cases g : 1 < s.size ∧ s[0] = 48
        · exact g
        · refine absurd ⟨?_, ?_, ?_⟩ h
          · intro e; rw [Lib.size_eq, e] at hp; simp at hp
          · rw [← Lib.size_eq]; omega
          · rw [← Lib.size_eq, headD_data s hp]; exact g
      have e1 : 1 < (s.size : Int) := by omega
      have e2 : ((s[0].toNat : Int) == 48) = true := by rw [byte48, hx.2]; rfl
      have e9 : (s.size : Int) ≤ 9 := by omega
      clear h h0 h9 hx
      go_enter Tryz.func53, Tryz.ntmps53
      go_wp2
      go_ret2
      exact ⟨rfl, rfl⟩

theorem take_snoc (s : ByteArray) (k : Nat) (h : k < s.size) : s.data.toList.take (k + 1) = s.data.toList.take k ++ [s[k]] := by
  rw [List.take_succ_eq_append_getElem (by rw [← Lib.size_eq]; exact h)]; rfl

set_option maxHeartbeats 2000000 in
theorem rn_ok (s : ByteArray) (w : World) (h : HeadOk s.data.toList) (hd : AllD s.data.toList) :
    Calls Tryz.prog 53 #[.string s] w fun e w' => e = .returned (.tuple #[.int .i64 (val s.data.toList), .bool true]) ∧ w' = w := by
  have hp : 0 < s.size := by
    rw [Lib.size_eq]; exact List.length_pos_iff.2 h.1
  have e0 : s.toList.isEmpty = false := by rw [isEmpty_iff]; exact decide_eq_false (by omega)
  have e9 : (s.size : Int) ≤ 9 := by have := h.2.1; rw [← Lib.size_eq] at this; omega
  have HD : Hid (AllD s.data.toList) := hd
  have hx : ¬ (1 < s.size ∧ s[0] = 48) := by
    have := h.2.2
    rw [← Lib.size_eq, headD_data s hp] at this
    exact this
  have main : ((s.size : Int) ≤ 1 ∨ (1 < (s.size : Int) ∧ ((s[0].toNat : Int) == 48) = false)) → Calls Tryz.prog 53 #[.string s] w fun e w' => e = .returned (.tuple #[.int .i64 (val s.data.toList), .bool true]) ∧ w' = w := by
    clear h hd hx
    rintro (e1 | ⟨e1, e2⟩)
    all_goals
      go_enter Tryz.func53, Tryz.ntmps53
      go_wp2
      go_loop [4, 25] (fun n i => ∃ k : Nat, k ≤ s.size ∧ i = .int .i64 k ∧ n = .int .i64 (val (s.data.toList.take k))) (fun _ i => s.size - (intOf i).toNat)
      case atStart => exact ⟨0, Nat.zero_le _, rfl, rfl⟩
      case round =>
        obtain ⟨k, hk, rfl, rfl⟩ := hrel
        have hv := val_small s.data.toList HD.out k (by rw [← Lib.size_eq]; exact hk) (by omega)
        obtain ⟨nv, hnv⟩ : ∃ nv, nv = val (s.data.toList.take k) := ⟨_, rfl⟩
        rw [← hnv] at hv ⊢
        have HV : Hid (nv = val (s.data.toList.take k)) := hnv
        obtain ⟨hv0, hv1⟩ := hv
        clear hnv
        by_cases hlt : k < s.size
        · have hd2 : Digit s[k] := HD.out _ (by
            have hl : k < s.data.toList.length := by rw [← Lib.size_eq]; exact hlt
            exact List.getElem_mem hl)
          obtain ⟨d0, d1⟩ := hd2
          go_wp2
          go_round
          case rel => exact ⟨k + 1, hlt, by go_num, by rw [take_snoc s k hlt, val_snoc, ← HV.out]⟩
          case measure => simp [intOf]; omega
        · go_wp2
          go_ret2
          have hks : k = s.data.toList.length := by rw [← Lib.size_eq]; omega
          refine ⟨?_, rfl⟩
          have hfin : val s.data.toList = nv := by rw [HV.out, hks, List.take_length]
          rw [hfin]
          rfl
  by_cases e1 : (s.size : Int) ≤ 1
  · exact main (Or.inl e1)
  · refine main (Or.inr ⟨by omega, ?_⟩)
    rw [byte48]
    exact decide_eq_false (fun e => hx ⟨by omega, e⟩)

set_option maxHeartbeats 2000000 in
theorem rn_bad (s : ByteArray) (w : World) (h : HeadOk s.data.toList) (hd : ¬ AllD s.data.toList) :
    Calls Tryz.prog 53 #[.string s] w fun e w' => e = .returned (.tuple #[.int .i64 0, .bool false]) ∧ w' = w := by
  have hp : 0 < s.size := by
    rw [Lib.size_eq]; exact List.length_pos_iff.2 h.1
  have e0 : s.toList.isEmpty = false := by rw [isEmpty_iff]; exact decide_eq_false (by omega)
  have e9 : (s.size : Int) ≤ 9 := by have := h.2.1; rw [← Lib.size_eq] at this; omega
  have HD : Hid (¬ AllD s.data.toList) := hd
  have hx : ¬ (1 < s.size ∧ s[0] = 48) := by
    have := h.2.2
    rw [← Lib.size_eq, headD_data s hp] at this
    exact this
  have main : ((s.size : Int) ≤ 1 ∨ (1 < (s.size : Int) ∧ ((s[0].toNat : Int) == 48) = false)) → Calls Tryz.prog 53 #[.string s] w fun e w' => e = .returned (.tuple #[.int .i64 0, .bool false]) ∧ w' = w := by
    clear h hd hx
    rintro (e1 | ⟨e1, e2⟩)
    all_goals
      go_enter Tryz.func53, Tryz.ntmps53
      go_wp2
      go_loop [4, 25] (fun n i => ∃ k : Nat, k ≤ s.size ∧ i = .int .i64 k ∧ (∀ b ∈ s.data.toList.take k, Digit b) ∧ n = .int .i64 (val (s.data.toList.take k))) (fun _ i => s.size - (intOf i).toNat)
      case atStart => exact ⟨0, Nat.zero_le _, rfl, (fun b hb => by simp at hb), rfl⟩
      case round =>
        obtain ⟨k, hk, rfl, hall, rfl⟩ := hrel
        have HA : Hid (∀ b ∈ s.data.toList.take k, Digit b) := hall
        have hkl : k ≤ s.data.toList.length := by rw [← Lib.size_eq]; exact hk
        have hv : 0 ≤ val (s.data.toList.take k) ∧ val (s.data.toList.take k) < 1000000000 := by
          have := val_small (s.data.toList.take k) hall k (by rw [List.length_take]; omega) (by omega)
          rw [List.take_take, Nat.min_self] at this
          exact this
        clear hall hkl
        obtain ⟨nv, hnv⟩ : ∃ nv, nv = val (s.data.toList.take k) := ⟨_, rfl⟩
        rw [← hnv] at hv ⊢
        have HV : Hid (nv = val (s.data.toList.take k)) := hnv
        obtain ⟨hv0, hv1⟩ := hv
        clear hnv
        by_cases hlt : k < s.size
        · by_cases hdk : Digit s[k]
          · have HK : Hid (Digit s[k]) := hdk
            obtain ⟨d0, d1⟩ := hdk
            go_wp2
            go_round
            case rel =>
              refine ⟨k + 1, hlt, by go_num, ?_, by rw [take_snoc s k hlt, val_snoc, ← HV.out]⟩
              rw [take_snoc s k hlt]
              intro b hb
              rcases List.mem_append.1 hb with g | g
              · exact HA.out b g
              · rw [List.mem_singleton.1 g]; exact HK.out
            case measure => simp [intOf]; omega
          · have hdk2 : ((s[k].toNat : Int) < 48) ∨ (57 < (s[k].toNat : Int)) := by
              unfold Digit at hdk; omega
            clear hdk
            rcases hdk2 with d | d
            · go_wp2
              go_ret2
              exact ⟨rfl, rfl⟩
            · have d2 : ¬ ((s[k].toNat : Int) < 48) := by omega
              go_wp2
              go_ret2
              exact ⟨rfl, rfl⟩
        · have hks : k = s.data.toList.length := by rw [← Lib.size_eq]; omega
          have := HA.out
          rw [hks, List.take_length] at this
          exact absurd this HD.out
  by_cases e1 : (s.size : Int) ≤ 1
  · exact main (Or.inl e1)
  · refine main (Or.inr ⟨by omega, ?_⟩)
    rw [byte48]
    exact decide_eq_false (fun e => hx ⟨by omega, e⟩)

end Go.Proofs.YtgmjmadacmgnkaaGreatDoor

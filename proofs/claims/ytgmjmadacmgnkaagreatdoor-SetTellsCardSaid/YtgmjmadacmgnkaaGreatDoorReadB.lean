/-
  Plain facts: a text cut at each comma; the text of a set read back.
-/
import Derived.Test.YtgmjmadacmgnkaaGreatDoorReadA
namespace Go.Proofs.YtgmjmadacmgnkaaGreatDoor
open Go.RowKit

/-- A text cut at each byte c. -/
def splitC (c : UInt8) : List UInt8 → List (List UInt8)
  | [] => [[]]
  | b :: l => if b = c then [] :: splitC c l else match splitC c l with
    | [] => [[b]]
    | x :: r => (b :: x) :: r

theorem splitC_hit (c : UInt8) (l : List UInt8) : splitC c (c :: l) = [] :: splitC c l := by rw [splitC, if_pos rfl]
theorem splitC_cons (c b : UInt8) (l x : List UInt8) (r : List (List UInt8)) (hb : b ≠ c) (h : splitC c l = x :: r) : splitC c (b :: l) = (b :: x) :: r := by rw [splitC, if_neg hb, h]
theorem splitC_none (c : UInt8) (l : List UInt8) (h : c ∉ l) : splitC c l = [l] := by
  induction l with
  | nil => rfl
  | cons b l ih =>
    have hb : b ≠ c := fun e => h (by rw [e]; exact List.mem_cons_self ..)
    exact splitC_cons c b l l [] hb (ih (fun e => h (List.mem_cons_of_mem _ e)))
theorem splitC_at (c : UInt8) (pre post : List UInt8) (h : c ∉ pre) : splitC c (pre ++ c :: post) = pre :: splitC c post := by
  induction pre with
  | nil => exact splitC_hit c post
  | cons b l ih =>
    have hb : b ≠ c := fun e => h (by rw [e]; exact List.mem_cons_self ..)
    exact splitC_cons c b _ l _ hb (ih (fun e => h (List.mem_cons_of_mem _ e)))

theorem index_one (c : UInt8) (l : List UInt8) : (Lib.index l [c] = -1 ∧ c ∉ l) ∨ ∃ pre post, l = pre ++ c :: post ∧ c ∉ pre ∧ Lib.index l [c] = (pre.length : Int) := by
  induction l with
  | nil => left; exact ⟨rfl, by simp⟩
  | cons b l ih =>
    by_cases hb : c = b
    · right
      subst hb
      exact ⟨[], l, rfl, by simp, by rw [Lib.index, if_pos (by show (c == c && ([] : List UInt8).isPrefixOf l) = true; rw [beq_self_eq_true]; cases l <;> rfl)]; rfl⟩
    · have hpre : [c].isPrefixOf (b :: l) = false := by
        show (c == b && ([] : List UInt8).isPrefixOf l) = false
        rw [beq_eq_false_iff_ne.2 hb]; rfl
      have hi : Lib.index (b :: l) [c] = if Lib.index l [c] == -1 then -1 else Lib.index l [c] + 1 := by
        rw [Lib.index, hpre]; rfl
      rcases ih with ⟨h1, h2⟩ | ⟨pre, post, h1, h2, h3⟩
      · left
        rw [hi, h1]
        exact ⟨rfl, by simp [hb, h2]⟩
      · right
        refine ⟨b :: pre, post, by rw [h1]; rfl, by simp [hb, h2], ?_⟩
        rw [hi, h3, if_neg (by simp)]
        simp

theorem splitB_eq (c : UInt8) : ∀ (k : Nat) (s : ByteArray), Lib.countB s ⟨#[c]⟩ = k → (Lib.splitB ⟨#[c]⟩ 0 k s).map (·.data.toList) = splitC c s.data.toList := by
  intro k
  induction k with
  | zero =>
    intro s hc
    rcases index_one c s.data.toList with ⟨h1, h2⟩ | ⟨pre, post, h1, h2, h3⟩
    · rw [splitC_none c _ h2]; rfl
    · have := Lib.countB_hit s ⟨#[c]⟩ pre.length (Nat.le_refl 1) h3
      omega
  | succ k ih =>
    intro s hc
    rcases index_one c s.data.toList with ⟨h1, h2⟩ | ⟨pre, post, h1, h2, h3⟩
    · have := Lib.countB_miss s ⟨#[c]⟩ h1
      omega
    · have hcnt := Lib.countB_hit s ⟨#[c]⟩ pre.length (Nat.le_refl 1) h3
      rw [Lib.splitB_hit ⟨#[c]⟩ 0 k s pre.length h3, List.map_cons, ih _ (by omega)]
      have e1 : (s.extract 0 (pre.length + 0)).data.toList = pre := by
        rw [Lib.extract_data]
        simp [h1]
      have e2 : (s.extract (pre.length + (⟨#[c]⟩ : ByteArray).size) s.size).data.toList = post := by
        rw [Lib.extract_data, Lib.size_eq s]
        have : (⟨#[c]⟩ : ByteArray).size = 1 := rfl
        rw [this, h1, List.length_append, List.length_cons, ← List.drop_drop, List.drop_left, List.drop_succ_cons, List.drop_zero]
        exact List.take_of_length_le (by omega)
      rw [e1, e2, h1, splitC_at c pre post h2]
end Go.Proofs.YtgmjmadacmgnkaaGreatDoor

/-
  A text read as a set: set.Read and the document's ReadSet tell the same.
-/
import Derived.Test.YtgmjmadacmgnkaaGreatDoorRefH
namespace Go.Proofs.YtgmjmadacmgnkaaGreatDoor
open Go.RowKit Go.Extern.Stop Go.Stop Go.Extern Go.Sort

/-- What a text tells: numbers, and the number of an error. -/
def Rd (s : ByteArray) (zs : List Int) (c : Int) : Prop :=
  ((∀ I, s.data.toList ≠ 123 :: (I ++ [125])) ∧ zs = [] ∧ c = 1) ∨ (s.data.toList = [123, 125] ∧ zs = [] ∧ c = 0) ∨
  ∃ I, I ≠ [] ∧ s.data.toList = 123 :: (I ++ [125]) ∧ (((¬ ∀ x ∈ splitC 44 I, WordOk x) ∧ zs = [] ∧ c = 1) ∨ ((∀ x ∈ splitC 44 I, WordOk x) ∧ Ec ((splitC 44 I).map val) c ∧ (c = 0 → zs = (splitC 44 I).map val) ∧ (c ≠ 0 → zs = [])))
theorem rd_any (s : ByteArray) : ∃ zs c, Rd s zs c := by
  by_cases h : ∀ I, s.data.toList ≠ 123 :: (I ++ [125])
  · exact ⟨[], 1, Or.inl ⟨h, rfl, rfl⟩⟩
  · obtain ⟨I, hI⟩ : ∃ I, s.data.toList = 123 :: (I ++ [125]) := by
      refine Classical.byContradiction fun g => h fun I e => g ⟨I, e⟩
    by_cases hne : I = []
    · subst hne
      exact ⟨[], 0, Or.inr (Or.inl ⟨hI, rfl, rfl⟩)⟩
    · by_cases hok : ∀ x ∈ splitC 44 I, WordOk x
      · obtain ⟨c, hc⟩ := ec_any ((splitC 44 I).map val)
        by_cases h0 : c = 0
        · exact ⟨_, c, Or.inr (Or.inr ⟨I, hne, hI, Or.inr ⟨hok, hc, fun _ => rfl, fun g => absurd h0 g⟩⟩)⟩
        · exact ⟨[], c, Or.inr (Or.inr ⟨I, hne, hI, Or.inr ⟨hok, hc, fun g => absurd g h0, fun _ => rfl⟩⟩)⟩
      · exact ⟨[], 1, Or.inr (Or.inr ⟨I, hne, hI, Or.inl ⟨hok, rfl, rfl⟩⟩)⟩

theorem split_len (l : List UInt8) : (splitC 44 l).length ≤ l.length + 1 := by
  induction l with
  | nil => exact Nat.le_refl _
  | cons b l ih =>
    simp only [splitC]
    split
    · simp; omega
    · split <;> rename_i h <;> rw [h] at ih <;> simp at ih ⊢ <;> omega

theorem refRead_any (s : ByteArray) (zs : List Int) (c : Int) (w : World) (hs : s.size ≤ 100000) (h : Rd s zs c) :
    Calls Tryz.prog 19 #[.string s] w fun e w' => ∃ v' : Value, e = .returned (.tuple #[v', .int .i64 c]) ∧ IsInts w' v' zs ∧ Below w.heap.size w w' := by
  rcases h with ⟨h, rfl, rfl⟩ | ⟨h, rfl, rfl⟩ | ⟨I, hne, hI, h⟩
  · refine (refRead_shape s w hs h).mono ?_
    rintro e w' ⟨rfl, rfl⟩
    exact ⟨_, rfl, IsInts.nil _ _ _, Below.refl _ _⟩
  · refine (refRead_none s w h).mono ?_
    rintro e w' ⟨rfl, rfl⟩
    exact ⟨_, rfl, IsInts.nil _ _ _, Below.refl _ _⟩
  · rcases h with ⟨h, rfl, rfl⟩ | ⟨h, hc, g1, g2⟩
    · refine (refRead_bad s I w hs hI hne h).mono ?_
      rintro e w' ⟨rfl, hB⟩
      exact ⟨_, rfl, IsInts.nil _ _ _, hB⟩
    · refine (refRead_words s I c w hs hI hne h hc).mono ?_
      rintro e w' ⟨v', ys, rfl, hi, g3, g4, hB⟩
      have : zs = ys := by
        by_cases h0 : c = 0
        · rw [g1 h0, g3 h0]
        · rw [g2 h0, g4 h0]
      exact ⟨v', rfl, by rw [this]; exact hi, hB⟩

theorem read_any (a : Nat → Addr) (s : ByteArray) (zs : List Int) (c : Int) (w : World) (hs : s.size ≤ 100000) (h3 : Three w a) (hm : MaxLen w) (h : Rd s zs c) :
    Calls Tryz.prog 18 #[.string s] w fun e w' => ∃ v' u : Value, e = .returned (.tuple #[v', u]) ∧ Told a u c ∧ IsInts w' v' zs ∧ Below w.heap.size w w' := by
  rcases h with ⟨h, rfl, rfl⟩ | ⟨h, rfl, rfl⟩ | ⟨I, hne, hI, h⟩
  · refine (read_text a s w h3 ((rl_shape s w (by omega) h).mono ?_)).mono ?_
    · rintro e w' ⟨rfl, rfl⟩
      exact ⟨rfl, Below.refl _ _⟩
    rintro e w' ⟨rfl, hB⟩
    exact ⟨_, _, rfl, Or.inr ⟨0, by decide, rfl, rfl⟩, IsInts.nil _ _ _, hB⟩
  · refine (read_ok [] s w (by decide) ?_ ((rl_none s w h).mono ?_)).mono ?_
    · exact ⟨fun j hj => absurd hj (Nat.not_lt_zero _), fun j hj => absurd hj (Nat.not_lt_zero _)⟩
    · rintro e w' ⟨rfl, rfl⟩
      exact ⟨_, rfl, IsInts.nil _ _ _, Below.refl _ _⟩
    rintro e w' ⟨v', rfl, hi, hB⟩
    exact ⟨_, _, rfl, Or.inl ⟨rfl, rfl⟩, hi, hB⟩
  · rcases h with ⟨h, rfl, rfl⟩ | ⟨h, hc, g1, g2⟩
    · refine (read_text a s w h3 (rl_bad s I w (by omega) hI hne hm h)).mono ?_
      rintro e w' ⟨rfl, hB⟩
      exact ⟨_, _, rfl, Or.inr ⟨0, by decide, rfl, rfl⟩, IsInts.nil _ _ _, hB⟩
    · have hl : ((splitC 44 I).map val).length ≤ 1000000 := by
        have h1 := split_len I
        have h2 : s.size = I.length + 2 := by rw [Lib.size_eq, hI]; simp
        rw [List.length_map]
        omega
      by_cases h0 : c = 0
      · subst h0
        refine (read_ok _ s w hl hc.zero (rl_words s I w (by omega) hI hne hm h)).mono ?_
        rintro e w' ⟨v', rfl, hi, hB⟩
        exact ⟨_, _, rfl, Or.inl ⟨rfl, rfl⟩, by rw [g1 rfl]; exact hi, hB⟩
      · obtain ⟨i, hi, hci, hk⟩ := check_no a _ c hc h0
        refine (read_no (a i) ((splitC 44 I).map val) s w (rl_words s I w (by omega) hI hne hm h) (fun v' w1 hv hB => hk v' w1 hl hv (h3.below hB))).mono ?_
        rintro e w' ⟨rfl, hB⟩
        exact ⟨_, _, rfl, Or.inr ⟨i, hi, hci, rfl⟩, by rw [g2 h0]; exact IsInts.nil _ _ _, hB⟩
end Go.Proofs.YtgmjmadacmgnkaaGreatDoor

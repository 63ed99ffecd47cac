/-
  Package set: what Text writes Read reads.
-/
import Derived.Test.YtgmjmadacmgnkaaDoorReadD
import Derived.Test.YtgmjmadacmgnkaaDoorText
namespace Go.Proofs.YtgmjmadacmgnkaaDoor
open Go.RowKit Go.Extern.Stop Go.Stop Go.Extern Go.Sort

theorem digit_ofNat (d : Nat) (h : d < 10) : Digit (UInt8.ofNat (48 + d)) ∧ ((UInt8.ofNat (48 + d)).toNat : Int) - 48 = d ∧ UInt8.ofNat (48 + d) ≠ 44 := by
  have e : (UInt8.ofNat (48 + d)).toNat = 48 + d := by
    rw [UInt8.toNat_ofNat']; omega
  refine ⟨?_, by omega, fun e2 => ?_⟩
  · unfold Digit; omega
  · have : (UInt8.ofNat (48 + d)).toNat = 44 := by rw [e2]; rfl
    omega

/-- The digits of a number below 1000. -/
theorem itoa_forms (z : Int) (h0 : 0 ≤ z) (h1 : z < 1000) : ∃ u : Nat, z = u ∧ u < 1000 ∧ ((u < 10 ∧ Lib.itoa z = [UInt8.ofNat (48 + u)]) ∨ (10 ≤ u ∧ u < 100 ∧ Lib.itoa z = [UInt8.ofNat (48 + u / 10), UInt8.ofNat (48 + u % 10)]) ∨
    (100 ≤ u ∧ Lib.itoa z = [UInt8.ofNat (48 + u / 10 / 10), UInt8.ofNat (48 + u / 10 % 10), UInt8.ofNat (48 + u % 10)])) := by
  obtain ⟨u, rfl⟩ := Int.eq_ofNat_of_zero_le h0
  refine ⟨u, rfl, by omega, ?_⟩
  have hi : Lib.itoa (u : Int) = Lib.decDigits u := by unfold Lib.itoa; rw [if_neg (by omega), Int.toNat_natCast]
  rw [hi]
  by_cases h : u < 10
  · left
    exact ⟨h, by rw [Lib.decDigits, dif_pos h]⟩
  · right
    rw [Lib.decDigits, dif_neg h, Lib.decDigits]
    by_cases h2 : u / 10 < 10
    · left
      exact ⟨by omega, by omega, by rw [dif_pos h2]; rfl⟩
    · right
      refine ⟨by omega, ?_⟩
      rw [dif_neg h2, Lib.decDigits, dif_pos (by omega)]
      rfl
theorem ofNat_ne_48 (d : Nat) (h0 : 0 < d) (h : d < 10) : UInt8.ofNat (48 + d) ≠ 48 := fun e => by
  have e1 : (UInt8.ofNat (48 + d)).toNat = 48 + d := by rw [UInt8.toNat_ofNat']; omega
  have : (UInt8.ofNat (48 + d)).toNat = 48 := by rw [e]; rfl
  omega

theorem itoa_word (z : Int) (h0 : 0 ≤ z) (h1 : z < 1000) : WordOk (Lib.itoa z) ∧ val (Lib.itoa z) = z ∧ (44 : UInt8) ∉ Lib.itoa z := by
  obtain ⟨u, rfl, hu, h⟩ := itoa_forms z h0 h1
  rcases h with ⟨h, e⟩ | ⟨h, h', e⟩ | ⟨h, e⟩ <;> rw [e]
  · obtain ⟨a1, a2, a3⟩ := digit_ofNat u h
    refine ⟨⟨⟨by simp, by simp, by simp⟩, fun b hb => ?_⟩, ?_, ?_⟩
    · rw [List.mem_singleton.1 hb]; exact a1
    · unfold val; simp only [List.foldl_cons, List.foldl_nil]; omega
    · intro hm; exact a3 (List.mem_singleton.1 hm).symm
  · obtain ⟨a1, a2, a3⟩ := digit_ofNat (u / 10) (by omega)
    obtain ⟨b1, b2, b3⟩ := digit_ofNat (u % 10) (by omega)
    refine ⟨⟨⟨by simp, by simp, ?_⟩, fun b hb => ?_⟩, ?_, ?_⟩
    · rintro ⟨_, g⟩; exact ofNat_ne_48 (u / 10) (by omega) (by omega) g
    · rcases List.mem_cons.1 hb with g | g
      · rw [g]; exact a1
      · rw [List.mem_singleton.1 g]; exact b1
    · unfold val; simp only [List.foldl_cons, List.foldl_nil]; omega
    · intro hm
      rcases List.mem_cons.1 hm with g | g
      · exact a3 g.symm
      · exact b3 (List.mem_singleton.1 g).symm
  · obtain ⟨a1, a2, a3⟩ := digit_ofNat (u / 10 / 10) (by omega)
    obtain ⟨b1, b2, b3⟩ := digit_ofNat (u / 10 % 10) (by omega)
    obtain ⟨c1, c2, c3⟩ := digit_ofNat (u % 10) (by omega)
    refine ⟨⟨⟨by simp, by simp, ?_⟩, fun b hb => ?_⟩, ?_, ?_⟩
    · rintro ⟨_, g⟩; exact ofNat_ne_48 (u / 10 / 10) (by omega) (by omega) g
    · rcases List.mem_cons.1 hb with g | g
      · rw [g]; exact a1
      · rcases List.mem_cons.1 g with g | g
        · rw [g]; exact b1
        · rw [List.mem_singleton.1 g]; exact c1
    · unfold val; simp only [List.foldl_cons, List.foldl_nil]; omega
    · intro hm
      rcases List.mem_cons.1 hm with g | g
      · exact a3 g.symm
      · rcases List.mem_cons.1 g with g | g
        · exact b3 g.symm
        · exact c3 (List.mem_singleton.1 g).symm

theorem splitC_joinTail (r : List (List UInt8)) : ∀ (x : List UInt8), (44 : UInt8) ∉ x → (∀ y ∈ r, (44 : UInt8) ∉ y) → splitC 44 (x ++ Lib.joinTail [44] r) = x :: r := by
  induction r with
  | nil =>
    intro x hx _
    rw [show x ++ Lib.joinTail [44] [] = x from by simp [Lib.joinTail]]
    exact splitC_none 44 x hx
  | cons y r ih =>
    intro x hx hr
    have e : x ++ Lib.joinTail [44] (y :: r) = x ++ 44 :: (y ++ Lib.joinTail [44] r) := by simp [Lib.joinTail]
    rw [e, splitC_at 44 x _ hx, ih y (hr y (List.mem_cons_self ..)) (fun z hz => hr z (List.mem_cons_of_mem _ hz))]
theorem splitC_join (xs : List (List UInt8)) (h : ∀ x ∈ xs, (44 : UInt8) ∉ x) (hne : xs ≠ []) : splitC 44 (Lib.join xs [44]) = xs := by
  cases xs with
  | nil => exact absurd rfl hne
  | cons x r =>
    rw [Lib.join_cons]
    exact splitC_joinTail r x (h x (List.mem_cons_self ..)) (fun y hy => h y (List.mem_cons_of_mem _ hy))

theorem read_back (zs : List Int) (s : ByteArray) (w : World) (hl : zs.length ≤ 10000) (hz : IsSet zs) (hm : MaxLen w) (hs : s.data.toList = setText zs) :
    Calls Tryd.prog 16 #[.string s] w fun e w' => ∃ v', e = .returned (.tuple #[v', .nilIface]) ∧ IsInts w' v' zs ∧ Below w.heap.size w w' := by
  refine read_ok zs s w (by omega) hz ?_
  have hw : ∀ z ∈ zs, WordOk (Lib.itoa z) ∧ val (Lib.itoa z) = z ∧ (44 : UInt8) ∉ Lib.itoa z := fun z hzm => by
    have := inB_iff.1 hz.1 z hzm
    exact itoa_word z this.1 this.2
  by_cases h0 : zs = []
  · subst h0
    refine (rl_none s w hs).mono ?_
    rintro e w1 ⟨rfl, rfl⟩
    exact ⟨_, rfl, IsInts.nil _ _ _, Below.refl _ _⟩
  · have hne : zs.map Lib.itoa ≠ [] := fun e => h0 (List.map_eq_nil_iff.1 e)
    have hsp := splitC_join (zs.map Lib.itoa) (fun x hx => by
      obtain ⟨z, hz1, rfl⟩ := List.mem_map.1 hx
      exact (hw z hz1).2.2) hne
    have hval : (zs.map Lib.itoa).map val = zs := by
      rw [List.map_map]
      exact (List.map_congr_left (fun z hz1 => (hw z hz1).2.1)).trans (List.map_id _)
    have hlen : (Lib.join (zs.map Lib.itoa) [44]).length ≤ 40000 := by
      have := join_le (zs.map Lib.itoa) (fun x hx => by
        obtain ⟨z, hz1, rfl⟩ := List.mem_map.1 hx
        have := inB_iff.1 hz.1 z hz1
        exact itoa_le z this.1 this.2)
      rw [List.length_map] at this
      omega
    have hse : s.data.toList = 123 :: (Lib.join (zs.map Lib.itoa) [44] ++ [125]) := hs
    have HR := rl_words s (Lib.join (zs.map Lib.itoa) [44]) w (by rw [Lib.size_eq, hse]; simp; omega) hse (fun e => by
      rw [e] at hsp
      have h1 := congrArg List.length hsp
      obtain ⟨z, r, rfl⟩ := List.exists_cons_of_ne_nil h0
      have h2 : splitC 44 [] = [[]] := rfl
      rw [h2] at hsp
      have h3 := (List.cons.inj hsp).1
      have := (hw z (List.mem_cons_self ..)).1.1.1
      exact this h3.symm) hm (fun x hx => by
      rw [hsp] at hx
      obtain ⟨z, hz1, rfl⟩ := List.mem_map.1 hx
      exact (hw z hz1).1)
    rw [hsp, hval] at HR
    exact HR
end Go.Proofs.YtgmjmadacmgnkaaDoor

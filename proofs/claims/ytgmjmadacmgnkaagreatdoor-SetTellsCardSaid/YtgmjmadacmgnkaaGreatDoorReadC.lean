/-
  Package set: readList, by contracts.
-/
import Derived.Test.YtgmjmadacmgnkaaGreatDoorReadB
namespace Go.Proofs.YtgmjmadacmgnkaaGreatDoor
open Go.RowKit Go.Extern.Stop Go.Stop Go.Extern Go.Sort

theorem prefix_one (c : UInt8) (l : List UInt8) : (Lib.hasPrefix l [c] = true ∧ ∃ r, l = c :: r ∧ Lib.trimPrefix l [c] = r) ∨ (Lib.hasPrefix l [c] = false ∧ (∀ r, l ≠ c :: r) ∧ Lib.trimPrefix l [c] = l) := by
  cases l with
  | nil => right; exact ⟨rfl, fun r e => (by cases e), rfl⟩
  | cons b r =>
    by_cases h : c = b
    · left
      subst h
      have hp : Lib.hasPrefix (c :: r) [c] = true := by
        show (c == c && ([] : List UInt8).isPrefixOf r) = true
        rw [beq_self_eq_true]; cases r <;> rfl
      exact ⟨hp, r, rfl, by unfold Lib.trimPrefix; rw [hp]; rfl⟩
    · right
      have hp : Lib.hasPrefix (b :: r) [c] = false := by
        show (c == b && ([] : List UInt8).isPrefixOf r) = false
        rw [beq_eq_false_iff_ne.2 h]; rfl
      refine ⟨hp, fun r' e => h (List.cons.inj e).1.symm, ?_⟩
      unfold Lib.trimPrefix
      rw [hp]; rfl
theorem suffix_one (c : UInt8) (l : List UInt8) : (Lib.hasSuffix l [c] = true ∧ ∃ r, l = r ++ [c] ∧ Lib.trimSuffix l [c] = r) ∨ (Lib.hasSuffix l [c] = false ∧ (∀ r, l ≠ r ++ [c])) := by
  cases hs : Lib.hasSuffix l [c] with
  | true =>
    left
    have h1 : [c] <:+ l := List.isSuffixOf_iff_suffix.1 hs
    obtain ⟨r, rfl⟩ := h1
    refine ⟨rfl, r, rfl, ?_⟩
    unfold Lib.trimSuffix
    rw [hs]
    simp
  | false =>
    right
    refine ⟨rfl, fun r e => ?_⟩
    have : Lib.hasSuffix l [c] = true := List.isSuffixOf_iff_suffix.2 ⟨r, e.symm⟩
    rw [hs] at this
    cases this

set_option maxHeartbeats 1000000 in
theorem rl_shape (s : ByteArray) (w : World) (hs : s.size ≤ 1000000) (h : ∀ I, s.data.toList ≠ 123 :: (I ++ [125])) :
    Calls Tryz.prog 35 #[.string s] w fun e w' => e = .returned (.tuple #[.slice none 0 0, .bool false]) ∧ w' = w := by
  rcases prefix_one 123 s.data.toList with ⟨hp, r, hr, ht⟩ | ⟨hp, hr, ht⟩
  · have hno : ∀ I, r ≠ I ++ [125] := fun I e => h I (by rw [hr, e])
    have HK := Tryz.strings_CutPrefix s ⟨#[123]⟩ w
    have HK' : Hid (Calls Tryz.prog 50 #[.string s, .string ⟨#[123]⟩] w fun e w' => e = .returned (.tuple #[.string ⟨r.toArray⟩, .bool true]) ∧ w' = w) := by
      have e1 : Lib.trimPrefix s.data.toList (⟨#[123]⟩ : ByteArray).data.toList = r := ht
      have e2 : Lib.hasPrefix s.data.toList (⟨#[123]⟩ : ByteArray).data.toList = true := hp
      rw [e1, e2] at HK
      exact HK
    have hrs : (⟨r.toArray⟩ : ByteArray).size ≤ 9223372036854775807 := by
      have : s.size = r.length + 1 := by rw [Lib.size_eq, hr]; rfl
      rw [Lib.size_eq]
      show r.toArray.toList.length ≤ _
      simp; omega
    have HS := Tryz.strings_CutSuffix ⟨r.toArray⟩ ⟨#[125]⟩ w hrs
    rcases suffix_one 125 r with ⟨_, I, hI, _⟩ | ⟨hc, _⟩
    · exact absurd hI (hno I)
    obtain ⟨X, HS'⟩ : ∃ X, Hid (Calls Tryz.prog 51 #[.string ⟨r.toArray⟩, .string ⟨#[125]⟩] w fun e w' => e = .returned (.tuple #[.string X, .bool false]) ∧ w' = w) := by
      have e2 : Lib.hasSuffix (⟨r.toArray⟩ : ByteArray).data.toList (⟨#[125]⟩ : ByteArray).data.toList = false := by
        show Lib.hasSuffix r.toArray.toList [125] = false
        rw [List.toList_toArray]; exact hc
      rw [e2] at HS
      exact ⟨_, HS⟩
    clear HK HS hno h hr ht hp hc
    go_enter Tryz.func35, Tryz.ntmps35
    go_wp2_with fail
    refine HK'.out.mono ?_
    rintro e w1 ⟨rfl, hw⟩
    obtain rfl := hw.symm
    go_wp2_with fail
    refine HS'.out.mono ?_
    rintro e w1 ⟨rfl, hw⟩
    obtain rfl := hw.symm
    go_wp2_with fail
    go_ret2
    exact ⟨rfl, rfl⟩
  · have HK := Tryz.strings_CutPrefix s ⟨#[123]⟩ w
    have HK' : Hid (Calls Tryz.prog 50 #[.string s, .string ⟨#[123]⟩] w fun e w' => e = .returned (.tuple #[.string ⟨s.data.toList.toArray⟩, .bool false]) ∧ w' = w) := by
      have e1 : Lib.trimPrefix s.data.toList (⟨#[123]⟩ : ByteArray).data.toList = s.data.toList := ht
      have e2 : Lib.hasPrefix s.data.toList (⟨#[123]⟩ : ByteArray).data.toList = false := hp
      rw [e1, e2] at HK
      exact HK
    obtain ⟨t, htt⟩ : ∃ t : ByteArray, t = ⟨s.data.toList.toArray⟩ := ⟨_, rfl⟩
    rw [← htt] at HK'
    have hts : t.size ≤ 9223372036854775807 := by
      rw [htt, Lib.size_eq]
      show s.data.toList.toArray.toList.length ≤ _
      rw [List.toList_toArray, ← Lib.size_eq]; omega
    obtain ⟨X, b, HS'⟩ : ∃ X b, Hid (Calls Tryz.prog 51 #[.string t, .string ⟨#[125]⟩] w fun e w' => e = .returned (.tuple #[.string X, .bool b]) ∧ w' = w) := ⟨_, _, Tryz.strings_CutSuffix t ⟨#[125]⟩ w hts⟩
    clear HK h hr ht hp htt hts
    go_enter Tryz.func35, Tryz.ntmps35
    go_wp2_with fail
    refine HK'.out.mono ?_
    rintro e w1 ⟨rfl, hw⟩
    obtain rfl := hw.symm
    go_wp2_with fail
    refine HS'.out.mono ?_
    rintro e w1 ⟨rfl, hw⟩
    obtain rfl := hw.symm
    go_wp2_with fail
    go_ret2
    exact ⟨rfl, rfl⟩

/-- The two cuts at a text of the right shape. -/
theorem cuts (s : ByteArray) (I : List UInt8) (w : World) (hs : s.size ≤ 1000000) (h : s.data.toList = 123 :: (I ++ [125])) :
    ∃ r : ByteArray, Hid (Calls Tryz.prog 50 #[.string s, .string ⟨#[123]⟩] w fun e w' => e = .returned (.tuple #[.string r, .bool true]) ∧ w' = w) ∧
      Hid (Calls Tryz.prog 51 #[.string r, .string ⟨#[125]⟩] w fun e w' => e = .returned (.tuple #[.string ⟨I.toArray⟩, .bool true]) ∧ w' = w) := by
  refine ⟨⟨(I ++ [125]).toArray⟩, ?_, ?_⟩
  · have HK := Tryz.strings_CutPrefix s ⟨#[123]⟩ w
    rcases prefix_one 123 s.data.toList with ⟨hp, r, hr, ht⟩ | ⟨_, hr, _⟩
    · have e1 : Lib.trimPrefix s.data.toList (⟨#[123]⟩ : ByteArray).data.toList = I ++ [125] := by
        rw [h] at hr
        rw [(List.cons.inj hr).2]; exact ht
      have e2 : Lib.hasPrefix s.data.toList (⟨#[123]⟩ : ByteArray).data.toList = true := hp
      rw [e1, e2] at HK
      exact HK
    · exact absurd h (hr _)
  · have hsz : (⟨(I ++ [125]).toArray⟩ : ByteArray).size ≤ 9223372036854775807 := by
      have h1 : s.size = (I ++ [125]).length + 1 := by rw [Lib.size_eq, h]; rfl
      rw [Lib.size_eq]
      show (I ++ [125]).toArray.toList.length ≤ _
      rw [List.toList_toArray]; omega
    have HS := Tryz.strings_CutSuffix ⟨(I ++ [125]).toArray⟩ ⟨#[125]⟩ w hsz
    rcases suffix_one 125 (I ++ [125]) with ⟨hc, r, hr, ht⟩ | ⟨_, hr⟩
    · have e1 : Lib.trimSuffix (⟨(I ++ [125]).toArray⟩ : ByteArray).data.toList (⟨#[125]⟩ : ByteArray).data.toList = I := by
        show Lib.trimSuffix (I ++ [125]).toArray.toList [125] = I
        rw [List.toList_toArray, ht]
        exact (List.append_inj_left' hr rfl).symm
      have e2 : Lib.hasSuffix (⟨(I ++ [125]).toArray⟩ : ByteArray).data.toList (⟨#[125]⟩ : ByteArray).data.toList = true := by
        show Lib.hasSuffix (I ++ [125]).toArray.toList [125] = true
        rw [List.toList_toArray]; exact hc
      rw [e1, e2] at HS
      exact HS
    · exact absurd rfl (hr I)

set_option maxHeartbeats 1000000 in
theorem rl_none (s : ByteArray) (w : World) (h : s.data.toList = [123, 125]) :
    Calls Tryz.prog 35 #[.string s] w fun e w' => e = .returned (.tuple #[.slice none 0 0, .bool true]) ∧ w' = w := by
  obtain ⟨r, H1, H2⟩ := cuts s [] w (by rw [Lib.size_eq, h]; decide) h
  go_enter Tryz.func35, Tryz.ntmps35
  go_wp2_with fail
  refine H1.out.mono ?_
  rintro e w1 ⟨rfl, hw⟩
  obtain rfl := hw.symm
  go_wp2_with fail
  refine H2.out.mono ?_
  rintro e w1 ⟨rfl, hw⟩
  obtain rfl := hw.symm
  go_wp2_with fail
  go_ret2
  exact ⟨rfl, rfl⟩
end Go.Proofs.YtgmjmadacmgnkaaGreatDoor

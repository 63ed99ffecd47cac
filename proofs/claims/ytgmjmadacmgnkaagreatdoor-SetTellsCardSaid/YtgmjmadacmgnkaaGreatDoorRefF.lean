/-
  The document's reading of a set: ReadSet of package fingerpostref1, where the text has not the shape, or is that of the empty set.
-/
import Derived.Test.YtgmjmadacmgnkaaGreatDoorRefA
import Derived.Test.YtgmjmadacmgnkaaGreatDoorRefE
import Derived.Test.YtgmjmadacmgnkaaGreatDoorReadD
namespace Go.Proofs.YtgmjmadacmgnkaaGreatDoor
open Go.RowKit Go.Extern.Stop Go.Stop Go.Extern Go.Sort

theorem shape_of (l : List UInt8) (h : 2 ≤ l.length) (h0 : l[0] = 123) (h1 : l[l.length - 1] = 125) : ∃ I, l = 123 :: (I ++ [125]) := by
  cases l with
  | nil => simp at h
  | cons b r =>
    have hb : b = 123 := h0
    subst hb
    have hr : r ≠ [] := fun e => by rw [e] at h; simp at h
    refine ⟨r.dropLast, ?_⟩
    have e := List.dropLast_concat_getLast hr
    have h2 : r.getLast hr = 125 := by
      rw [← h1, List.getLast_eq_getElem]
      simp only [List.length_cons, Nat.add_sub_cancel]
      cases r with
      | nil => exact absurd rfl hr
      | cons x y => simp
    rw [h2] at e
    rw [e]

set_option maxRecDepth 100000 in
set_option maxHeartbeats 2000000 in
theorem refRead_shape (s : ByteArray) (w : World) (hs : s.size ≤ 100000) (h : ∀ I, s.data.toList ≠ 123 :: (I ++ [125])) :
    Calls Tryz.prog 19 #[.string s] w fun e w' => e = .returned (.tuple #[.slice none 0 0, .int .i64 1]) ∧ w' = w := by
  by_cases h2 : s.size < 2
  · clear h
    go_enter Tryz.func19, Tryz.ntmps19
    go_wp2
    go_ret2
    exact ⟨rfl, rfl⟩
  · have hp : 0 < s.size := by omega
    by_cases h0 : s[0] = 123
    · have h1 : s[s.size - 1] ≠ 125 := fun e => by
        obtain ⟨I, hI⟩ := shape_of s.data.toList (by rw [← Lib.size_eq]; omega) h0 e
        exact h I hI
      have e0 : ((s[0].toNat : Int) != 123) = false := by rw [h0]; rfl
      have e1 : ((s[s.size - 1].toNat : Int) != 125) = true := bne_iff_ne.2 (fun e => h1 (UInt8.toNat_inj.1 (by have : (125 : UInt8).toNat = 125 := rfl; omega)))
      clear h h0 h1
      go_enter Tryz.func19, Tryz.ntmps19
      go_wp2
      go_ret2
      exact ⟨rfl, rfl⟩
    · have e0 : ((s[0].toNat : Int) != 123) = true := bne_iff_ne.2 (fun e => h0 (UInt8.toNat_inj.1 (by have : (123 : UInt8).toNat = 123 := rfl; omega)))
      clear h h0
      go_enter Tryz.func19, Tryz.ntmps19
      go_wp2
      go_ret2
      exact ⟨rfl, rfl⟩
end Go.Proofs.YtgmjmadacmgnkaaGreatDoor

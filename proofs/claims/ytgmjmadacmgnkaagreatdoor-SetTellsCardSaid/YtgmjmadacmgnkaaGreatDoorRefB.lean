/-
  The document's text of a set: Byte, below, Decimal of package fingerpostref1, by contracts.
-/
import Derived.Test.YtgmjmadacmgnkaaGreatDoorRefA
import Derived.Test.YtgmjmadacmgnkaaGreatDoorText
import Derived.Laws.IdiomStrings
namespace Go.Proofs.YtgmjmadacmgnkaaGreatDoor
open Go.RowKit Go.Extern.Stop Go.Stop Go.Extern

/-- The text of one digit. -/
def digit (d : Nat) : ByteArray := ⟨#[UInt8.ofNat (48 + d)]⟩

theorem convert_byte (d : Nat) (hd : d < 10) (w : World) : (convert 74 9 (.slice (some ⟨w.heap.size, 0, none⟩) 1 1)).run Tryz.prog (w.alloc (.cells #[.int .u8 (48 + (d : Int))] 5)) = .ok (.string (digit d)) (w.alloc (.cells #[.int .u8 (48 + (d : Int))] 5)) := by
  have e : (UInt8.ofNat (48 + d)).toNat = 48 + d := by rw [UInt8.toNat_ofNat']; omega
  exact run_convert_bytes_back (P := Tryz.prog) (w.alloc (.cells #[.int .u8 (48 + (d : Int))] 5)) 74 9 5 ⟨w.heap.size, 0, none⟩ 1 [UInt8.ofNat (48 + d)] Tryz.underlying74 Tryz.underlying5 Tryz.underlying9 (fun j hj => by
    obtain rfl : j = 0 := by simpa using hj
    have e2 : (([UInt8.ofNat (48 + d)][0]).toNat : Int) = 48 + (d : Int) := by
      show ((UInt8.ofNat (48 + d)).toNat : Int) = _
      rw [e]; omega
    rw [e2]
    simp [Addr.add])

set_option maxRecDepth 100000 in
set_option maxHeartbeats 1000000 in
theorem byte_any (d : Nat) (m : Int) (hm : m = 48 + (d : Int)) (hd : d < 10) (w : World) :
    Calls Tryz.prog 68 #[.int .i64 m] w fun e w' => e = .returned (.string (digit d)) ∧ Below w.heap.size w w' := by
  subst hm
  have hcv := convert_byte d hd w
  go_enter Tryz.func68, Tryz.ntmps68
  go_wp2
  go_ret
  exact ⟨rfl, (Below.refl _ _).alloc (Nat.le_refl _) _⟩

theorem tdiv_neg (u : Nat) : (-(u : Int)).tdiv 10 = -((u / 10 : Nat) : Int) := by
  rw [Int.neg_tdiv, Int.ofNat_tdiv]; rfl
theorem tmod_neg (u : Nat) : (-(u : Int)).tmod 10 = -((u % 10 : Nat) : Int) := by
  rw [Int.neg_tmod, Int.ofNat_tmod]; rfl
theorem digits_small (u : Nat) (h : u < 10) : Lib.decDigits u = [UInt8.ofNat (48 + u)] := by rw [Lib.decDigits, dif_pos h]
theorem digits_more (u : Nat) (h : ¬ u < 10) : Lib.decDigits u = Lib.decDigits (u / 10) ++ [UInt8.ofNat (48 + u % 10)] := by rw [Lib.decDigits, dif_neg h]
theorem digits_len (u : Nat) (h : u < 1000) : (Lib.decDigits u).length ≤ 3 := by
  have := itoa_le (u : Int) (by omega) (by omega)
  unfold Lib.itoa at this
  rw [if_neg (by omega), Int.toNat_natCast] at this
  exact this

set_option maxRecDepth 100000 in
set_option maxHeartbeats 1000000 in
theorem below_any : ∀ (f u : Nat), u < f → u < 1000 → ∀ (m : Int), m = -(u : Int) → ∀ w : World,
    Calls Tryz.prog 49 #[.int .i64 m] w fun e w' => e = .returned (.string ⟨(Lib.decDigits u).toArray⟩) ∧ Below w.heap.size w w' := by
  intro f
  induction f with
  | zero => intro u hu; omega
  | succ f ih =>
    intro u hu h1000 m hm w
    have IH : Hid (∀ (u : Nat), u < f → u < 1000 → ∀ (m : Int), m = -(u : Int) → ∀ w : World, Calls Tryz.prog 49 #[.int .i64 m] w fun e w' => e = .returned (.string ⟨(Lib.decDigits u).toArray⟩) ∧ Below w.heap.size w w') := ih
    clear ih
    by_cases h : u < 10
    · subst hm
      rw [digits_small u h]
      have h2 : -10 < -(u : Int) := by omega
      go_enter Tryz.func49, Tryz.ntmps49
      go_wp2_with fail
      refine (byte_any u _ (by omega) h _).mono ?_
      rintro e w1 ⟨rfl, hB⟩
      go_wp2
      go_ret
      exact ⟨rfl, hB⟩
    · have h2 : m ≤ -10 := by omega
      have h3 : -1000 < m := by omega
      have HM : Hid (m = -(u : Int)) := hm
      have HL : Hid ((Lib.decDigits (u / 10)).length ≤ 3) := digits_len (u / 10) (by omega)
      clear hm
      go_enter Tryz.func49, Tryz.ntmps49
      go_wp2_with fail
      refine (IH.out (u / 10) (by omega) (by omega) _ ?_ _).mono ?_
      · rw [HM.out]
        first | exact tdiv_neg u | (rw [tdiv_neg u]; unfold wrap64; omega)
      rintro e w1 ⟨rfl, hB⟩
      obtain ⟨ds, hds⟩ : ∃ ds, ds = Lib.decDigits (u / 10) := ⟨_, rfl⟩
      rw [← hds]
      have hdl : ds.length ≤ 3 := by rw [hds]; exact HL.out
      have HDS : Hid (ds = Lib.decDigits (u / 10)) := hds
      clear hds
      go_wp2_with fail
      refine (byte_any (u % 10) _ ?_ (by omega) _).mono ?_
      · rw [HM.out]
        first | (rw [tmod_neg u]; omega) | (rw [tmod_neg u]; unfold wrap64; omega)
      rintro e w2 ⟨rfl, hB2⟩
      have hd1 : (digit (u % 10)).size = 1 := rfl
      go_wp2_with fail
      go_ret
      refine ⟨?_, hB.trans (hB2.mono hB.size)⟩
      rw [digits_more u h, ← HDS.out]
      show Ending.returned (.string ((⟨ds.toArray⟩ : ByteArray) ++ digit (u % 10))) = _
      unfold digit
      rw [ba_append]
      simp

set_option maxRecDepth 100000 in
set_option maxHeartbeats 1000000 in
theorem decimal_any (z : Int) (h0 : 0 ≤ z) (h1 : z < 1000) (w : World) :
    Calls Tryz.prog 34 #[.int .i64 z] w fun e w' => e = .returned (.string (num z)) ∧ Below w.heap.size w w' := by
  obtain ⟨u, rfl⟩ := Int.eq_ofNat_of_zero_le h0
  have hn : num (u : Int) = ⟨(Lib.decDigits u).toArray⟩ := by
    unfold num Lib.itoa
    rw [if_neg (by omega), Int.toNat_natCast]
  rw [hn]
  have hu : u < 1000 := by omega
  clear hn
  go_enter Tryz.func34, Tryz.ntmps34
  go_wp2_with fail
  refine (below_any (u + 1) u (by omega) hu _ (by omega) _).mono ?_
  rintro e w1 ⟨rfl, hB⟩
  go_wp2
  go_ret
  exact ⟨rfl, hB⟩
end Go.Proofs.YtgmjmadacmgnkaaGreatDoor

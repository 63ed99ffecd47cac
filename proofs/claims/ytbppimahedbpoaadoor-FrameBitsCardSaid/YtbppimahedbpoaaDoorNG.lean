/-
  Package frame: a text that is read, number by number, by contracts.
-/
import Derived.Test.YtbppimahedbpoaaDoorNB
namespace Go.Proofs.YtbppimahedbpoaaDoor
open Go.RowKit Go.Extern.Stop Go.Stop Go.Extern

theorem i64_or_nat (a b : Nat) (ha : a < 9223372036854775808) (hb : b < 9223372036854775808) : bits .or .i64 (a : Int) (b : Int) = ((a ||| b : Nat) : Int) := by
  have hx : a ||| b < 2 ^ 63 := Nat.or_lt_two_pow (by omega) (by omega)
  show IntKind.i64.wrap ((BitVec.ofInt 64 (a : Int) ||| BitVec.ofInt 64 (b : Int)).toNat : Int) = _
  rw [BitVec.toNat_or, ofInt_u64 a (by omega), ofInt_u64 b (by omega)]
  simp [IntKind.wrap, IntKind.bits, IntKind.signed]
  omega
theorem i64_xor_nat (a b : Nat) (ha : a < 9223372036854775808) (hb : b < 9223372036854775808) : bits .xor .i64 (a : Int) (b : Int) = ((a ^^^ b : Nat) : Int) := by
  have hx : a ^^^ b < 2 ^ 63 := Nat.xor_lt_two_pow (by omega) (by omega)
  show IntKind.i64.wrap ((BitVec.ofInt 64 (a : Int) ^^^ BitVec.ofInt 64 (b : Int)).toNat : Int) = _
  rw [BitVec.toNat_xor, ofInt_u64 a (by omega), ofInt_u64 b (by omega)]
  simp [IntKind.wrap, IntKind.bits, IntKind.signed]
  omega
theorem or_byte (n : Nat) (b : UInt8) (hn : n < 16777216) : bits .or .i64 ((n : Int) * 256) (b.toNat : Int) = ((256 * n + b.toNat : Nat) : Int) := by
  have hb := b.toNat_lt
  rw [show (n : Int) * 256 = ((256 * n : Nat) : Int) by omega, i64_or_nat _ _ (by omega) (by omega)]
  congr 1
  exact (Nat.two_pow_add_eq_or_of_lt (i := 8) hb n).symm
theorem bytesN_snoc (l : Bs) (b : UInt8) : bytesN (l ++ [b]) = 256 * bytesN l + b.toNat := by simp [bytesN, List.foldl_append]
theorem bytesN_lt (l : Bs) : bytesN l < 256 ^ l.length := by
  have : ∀ (l : Bs) (n m : Nat), n < m → l.foldl (fun n b => 256 * n + b.toNat) n < m * 256 ^ l.length := by
    intro l
    induction l with
    | nil => intro n m h; simpa using h
    | cons b l ih =>
      intro n m h
      rw [List.foldl_cons, List.length_cons, Nat.pow_succ]
      have hb := b.toNat_lt
      have := ih (256 * n + b.toNat) (256 * m) (by omega)
      calc _ < 256 * m * 256 ^ l.length := this
        _ = m * (256 ^ l.length * 256) := by rw [Nat.mul_comm 256 m, Nat.mul_assoc, Nat.mul_comm 256]
  simpa [bytesN] using this l 0 1 (by decide)
/-- The number of k bytes from a place on. -/
def tkD (l : Bs) (at_ k : Nat) : Nat := bytesN ((l.drop at_).take k)
theorem tkD_next (l : Bs) (at_ k : Nat) (h : at_ + k < l.length) : tkD l at_ (k + 1) = 256 * tkD l at_ k + (l.getD (at_ + k) 0).toNat := by
  unfold tkD
  have hk : k < (l.drop at_).length := by rw [List.length_drop]; omega
  rw [List.take_succ_eq_append_getElem hk, bytesN_snoc, List.getElem_drop]
  simp [List.getD, h]
theorem tkD_lt (l : Bs) (at_ k : Nat) : tkD l at_ k < 256 ^ k := by
  refine Nat.lt_of_lt_of_le (bytesN_lt _) (Nat.pow_le_pow_right (by decide) ?_)
  rw [List.length_take]
  omega
abbrev TInt : TypeId := 3
abbrev TStr : TypeId := 9
abbrev takeV (sb ab : Nat) : Value := .func (Fn.func 40) #[] #[.pointer (some ⟨sb, 0, none⟩), .pointer (some ⟨ab, 0, none⟩)]
theorem reader_any (s : ByteArray) (w : World) : Calls Tryd.prog 32 #[.string s] w fun e w' => e = .returned (takeV w.heap.size (w.heap.size + 1)) ∧ w' = (w.alloc (.cells #[.string s] TStr)).alloc (.cells #[.int .i64 0] TInt) := by
  go_enter Tryd.func32, Tryd.ntmps32
  go_wp2_with fail
  go_ret
  exact ⟨rfl, rfl⟩
set_option maxRecDepth 100000 in
set_option maxHeartbeats 8000000 in
theorem take_any (s : ByteArray) (sb ab at_ size : Nat) (w : World) (hsb : w.heap[sb]? = some (.cells #[.string s] TStr (0, 0))) (hab : w.heap[ab]? = some (.cells #[.int .i64 (at_ : Int)] TInt (0, 0))) (hle : at_ + size ≤ s.size) (h4 : size ≤ 4) (hs : s.size ≤ 1000000) :
    Calls Tryd.prog 40 #[.int .i64 (size : Int), .pointer (some ⟨sb, 0, none⟩), .pointer (some ⟨ab, 0, none⟩)] w fun e w' => e = .returned (.int .i64 ((tkD s.data.toList at_ size : Nat) : Int)) ∧ w'.heap[ab]? = some (.cells #[.int .i64 ((at_ + size : Nat) : Int)] TInt (0, 0)) ∧ KeepN w w' (· = ab) := by
  obtain ⟨l, hl⟩ : ∃ l, l = s.data.toList := ⟨_, rfl⟩
  have HL : Hid (l = s.data.toList ∧ l.length = s.size) := ⟨hl, by rw [hl, ← Lib.size_eq]⟩
  have HG : Hid (∀ k (h : k < s.size), l.getD k 0 = s[k]) := fun k h => by rw [hl]; exact getD_dataN s k h
  have hne : sb ≠ ab := fun e => by
    rw [e, hab] at hsb
    injection hsb with q
    injection q with _ q _
    exact absurd q (by decide)
  have H0 : Hid (w.heap[sb]? = some (.cells #[.string s] TStr (0, 0)) ∧ w.heap[ab]? = some (.cells #[.int .i64 ((at_ + 0 : Nat) : Int)] TInt (0, 0)) ∧ sb ≠ ab ∧ at_ + size ≤ s.size) := ⟨hsb, hab, hne, hle⟩
  rw [← hl]
  clear hl hsb hab hne hle
  go_enter Tryd.func40, Tryd.ntmps40
  go_wp2_with fail
  go_loopw [5, 7] (fun t5 t7 wr => ∃ k : Nat, k ≤ size ∧ t7 = .int .i64 k ∧ t5 = .int .i64 ((tkD l at_ k : Nat) : Int) ∧ wr.heap[ab]? = some (.cells #[.int .i64 ((at_ + k : Nat) : Int)] TInt (0, 0)) ∧ KeepN w wr (· = ab)) (fun _ t7 _ => (size - intOf t7).toNat)
  case atStart => exact ⟨0, Nat.zero_le _, rfl, rfl, H0.out.2.1, KeepN.refl _ _⟩
  case round =>
    obtain ⟨k, hk, rfl, rfl, hh, hkp⟩ := hrel
    by_cases hlt : k < size
    · have hki : (k : Int) < size := by omega
      obtain ⟨p, hp⟩ : ∃ p, p = at_ + k := ⟨_, rfl⟩
      have hps : p < s.size := by have := H0.out.2.2.2; omega
      obtain ⟨x, hx⟩ : ∃ x, x = tkD l at_ k := ⟨_, rfl⟩
      have hxl : x < 16777216 := by
        rw [hx]
        have h1 := tkD_lt l at_ k
        have h2 : (256 : Nat) ^ k ≤ 256 ^ 3 := Nat.pow_le_pow_right (by decide) (by omega)
        omega
      have hnx : tkD l at_ (k + 1) = 256 * x + (s[p]'hps).toNat := by
        rw [tkD_next l at_ k (by rw [HL.out.2]; omega), ← hp, HG.out p hps, hx]
      have hy8 : (s[p]'hps).toNat < 256 := UInt8.toNat_lt _
      have hor := or_byte x (s[p]'hps) hxl
      rw [← hx]
      rw [← hp] at hh
      have hsb := hkp.keep sb _ H0.out.1 H0.out.2.2.1
      have c0 : wr.cell? ⟨sb, 0, none⟩ = some (.string s) := by rw [Lib.cell_of_heap hsb]; rfl
      have c1 : wr.cell? ⟨ab, 0, none⟩ = some (.int .i64 (p : Int)) := by rw [Lib.cell_of_heap hh]; rfl
      have f1 : wr.frozen? ⟨ab, 0, none⟩ = false := Lib.frozen_of_heap hh 0
      have HP : Hid (tkD l at_ (k + 1) = 256 * x + (s[p]'hps).toNat ∧ wr.heap[ab]? = some (.cells #[.int .i64 (p : Int)] TInt (0, 0)) ∧ KeepN w wr (· = ab) ∧ p = at_ + k) := ⟨hnx, hh, hkp, hp⟩
      clear hnx hh hkp hsb hx hp
      go_wp2_with fail
      go_roundw
      case rel => exact ⟨k + 1, hlt, by go_num, by rw [HP.out.1]; go_num, by rw [set_block _ _ _ _ _ _ HP.out.2.1, HP.out.2.2.2]; rfl, HP.out.2.2.1.trans (keepN_set _ _ _ _ _ rfl)⟩
      case measure => simp [intOf]; omega
    · have hks : k = size := by omega
      subst hks
      have HP : Hid (wr.heap[ab]? = some (.cells #[.int .i64 ((at_ + k : Nat) : Int)] TInt (0, 0)) ∧ KeepN w wr (· = ab)) := ⟨hh, hkp⟩
      obtain ⟨x, hx⟩ : ∃ x, x = tkD l at_ k := ⟨_, rfl⟩
      have HX : Hid (x = tkD l at_ k) := hx
      rw [← hx]
      clear hh hkp hx
      go_wp2_with fail
      go_ret
      exact ⟨by rw [← HX.out]; rfl, HP.out⟩
end Go.Proofs.YtbppimahedbpoaaDoor

/-
  Package frame, plain: a sum by division, frames as bytes.
-/
import Derived.Test.YtbppimahedbpoaaDoorFM
namespace Go.Proofs.YtbppimahedbpoaaDoor
open Go.RowKit Go.Extern.Stop Go.Stop Go.Extern

theorem xorR {a b c : Nat} (h : a ^^^ c = b ^^^ c) : a = b := by
  have := congrArg (· ^^^ c) h
  simpa [Nat.xor_assoc] using this
theorem xorL {a b c : Nat} (h : c ^^^ a = c ^^^ b) : a = b := xorR (c := c) (by rw [Nat.xor_comm a, Nat.xor_comm b, h])
def polyN : Nat := 3988292384
def stepC (c : Nat) : Nat := (c / 2) ^^^ (if c % 2 = 1 then polyN else 0)
def stepsC : Nat → Nat → Nat
  | 0, c => c
  | k + 1, c => stepC (stepsC k c)
def bringC (c : Nat) (b : UInt8) : Nat := stepsC 8 (c ^^^ b.toNat)
def restC (l : Bs) (c : Nat) : Nat := l.foldl bringC c
def crcD (l : Bs) : Nat := restC l 4294967295 ^^^ 4294967295
theorem stepC_lt {c : Nat} (h : c < 4294967296) : stepC c < 4294967296 := by
  unfold stepC
  refine Nat.xor_lt_two_pow (n := 32) (by omega) ?_
  split
  · decide
  · decide
theorem stepsC_lt {c : Nat} (h : c < 4294967296) : ∀ k, stepsC k c < 4294967296
  | 0 => h
  | k + 1 => stepC_lt (stepsC_lt h k)
theorem xor_u8_lt {c : Nat} (h : c < 4294967296) (b : UInt8) : c ^^^ b.toNat < 4294967296 := Nat.xor_lt_two_pow (n := 32) (by omega) (Nat.lt_of_lt_of_le b.toNat_lt (by decide))
theorem bringC_lt {c : Nat} (h : c < 4294967296) (b : UInt8) : bringC c b < 4294967296 := stepsC_lt (xor_u8_lt h b) 8
theorem restC_lt (l : Bs) : ∀ {c : Nat}, c < 4294967296 → restC l c < 4294967296 := by
  induction l with
  | nil => exact fun h => h
  | cons b l ih => exact fun h => ih (bringC_lt h b)
theorem crcD_lt (l : Bs) : crcD l < 4294967296 := Nat.xor_lt_two_pow (n := 32) (restC_lt l (by decide)) (by decide)
/-- A step can be turned around. -/
theorem stepC_inj {c d : Nat} (hc : c < 4294967296) (hd : d < 4294967296) (h : stepC c = stepC d) : c = d := by
  have top : ∀ e : Nat, e < 4294967296 → (stepC e).testBit 31 = decide (e % 2 = 1) := fun e he => by
    unfold stepC
    rw [Nat.testBit_xor]
    have h1 : (e / 2).testBit 31 = false := Nat.testBit_lt_two_pow (by omega)
    rw [h1]
    by_cases q : e % 2 = 1
    · rw [if_pos q, decide_eq_true q]; decide
    · rw [if_neg q, decide_eq_false q]; decide
  have ht : decide (c % 2 = 1) = decide (d % 2 = 1) := by rw [← top c hc, ← top d hd, h]
  have hp : (c % 2 = 1) ↔ (d % 2 = 1) := decide_eq_decide.1 ht
  have hx : c / 2 = d / 2 := by
    unfold stepC at h
    by_cases q : c % 2 = 1
    · rw [if_pos q, if_pos (hp.1 q)] at h
      exact xorR h
    · rw [if_neg q, if_neg (fun e => q (hp.2 e))] at h
      exact xorR h
  omega
theorem stepsC_inj {c d : Nat} (hc : c < 4294967296) (hd : d < 4294967296) : ∀ k, stepsC k c = stepsC k d → c = d
  | 0, h => h
  | k + 1, h => stepsC_inj hc hd k (stepC_inj (stepsC_lt hc k) (stepsC_lt hd k) h)
theorem bringC_inj {c d : Nat} (hc : c < 4294967296) (hd : d < 4294967296) (b : UInt8) (h : bringC c b = bringC d b) : c = d :=
  xorR (stepsC_inj (xor_u8_lt hc b) (xor_u8_lt hd b) 8 h)
theorem bringC_byte {c : Nat} (hc : c < 4294967296) (b e : UInt8) (h : bringC c b = bringC c e) : b = e :=
  UInt8.toNat_inj.1 (xorL (stepsC_inj (xor_u8_lt hc b) (xor_u8_lt hc e) 8 h))
theorem restC_inj (l : Bs) : ∀ {c d : Nat}, c < 4294967296 → d < 4294967296 → restC l c = restC l d → c = d := by
  induction l with
  | nil => exact fun _ _ h => h
  | cons b l ih => exact fun hc hd h => bringC_inj hc hd b (ih (bringC_lt hc b) (bringC_lt hd b) h)
/-- One byte that is another: another sum. -/
theorem crcD_byte (l m : Bs) (b e : UInt8) (h : crcD (l ++ b :: m) = crcD (l ++ e :: m)) : b = e := by
  unfold crcD at h
  have h1 := xorR h
  unfold restC at h1
  rw [List.foldl_append, List.foldl_append, List.foldl_cons, List.foldl_cons] at h1
  have hl := restC_lt l (c := 4294967295) (by decide)
  exact bringC_byte hl b e (restC_inj m (bringC_lt hl b) (bringC_lt hl e) h1)
/-- A byte of a number. -/
def byteN (x : Nat) : UInt8 := UInt8.ofNat (x % 256)
theorem byteN_toNat (x : Nat) : (byteN x).toNat = x % 256 := by unfold byteN; rw [UInt8.toNat_ofNat']; omega
theorem byteN_inj {x y : Nat} (h : byteN x = byteN y) : x % 256 = y % 256 := by rw [← byteN_toNat, h, byteN_toNat]
def lowD (c : Nat) : Bs := [byteN c, byteN (c / 256), byteN (c / 65536), byteN (c / 16777216)]
theorem lowD_inj {c d : Nat} (hc : c < 4294967296) (hd : d < 4294967296) (h : lowD c = lowD d) : c = d := by
  unfold lowD at h
  injection h with h1 h
  injection h with h2 h
  injection h with h3 h
  injection h with h4 _
  have := byteN_inj h1
  have := byteN_inj h2
  have := byteN_inj h3
  have := byteN_inj h4
  omega
/-- So many bytes of a number, the highest first. -/
def highD (size : Nat) (n : Nat) : Bs := (List.range size).map fun j => byteN (n / 256 ^ (size - 1 - j))
def bytesN (l : Bs) : Nat := l.foldl (fun n b => 256 * n + b.toNat) 0
theorem high1 (n : Nat) : highD 1 n = [byteN n] := by simp [highD]
theorem high4 (n : Nat) : highD 4 n = [byteN (n / 16777216), byteN (n / 65536), byteN (n / 256), byteN n] := by simp [highD, List.range_succ]
theorem highD_len (s n : Nat) : (highD s n).length = s := by simp [highD]
theorem bytes4 (a b c d : UInt8) : bytesN [a, b, c, d] = 16777216 * a.toNat + 65536 * b.toNat + 256 * c.toNat + d.toNat := by simp [bytesN]; omega
theorem high_bytes {n : Nat} (h : n < 4294967296) : bytesN (highD 4 n) = n := by
  rw [high4, bytes4, byteN_toNat, byteN_toNat, byteN_toNat, byteN_toNat]; omega
theorem bytes_high (a b c d : UInt8) : highD 4 (bytesN [a, b, c, d]) = [a, b, c, d] := by
  rw [high4, bytes4]
  have ha := a.toNat_lt
  have hb := b.toNat_lt
  have hc := c.toNat_lt
  have hd := d.toNat_lt
  have e : ∀ (x : Nat) (u : UInt8), x % 256 = u.toNat → byteN x = u := fun x u q => UInt8.toNat_inj.1 (by rw [byteN_toNat, q])
  rw [e _ a (by omega), e _ b (by omega), e _ c (by omega), e _ d (by omega)]
/-- A frame. -/
structure FrameD where
  kind : Int
  frm : Int
  to : Int
  seq : Int
  nums : List Int
  deriving DecidableEq
def isKindB (k : Int) : Bool := k == 100 || (k == 101 || (k == 116 || k == 97))
def isPeerB (n : Int) : Bool := decide (0 ≤ n) && decide (n < 6)
def isNumB (n : Int) : Bool := decide (0 ≤ n) && decide (n ≤ 2147483648)
/-- The error of a frame, by its place among the eleven: kind 3, bound 1, shape 2, full 7. -/
def frameE (f : FrameD) : Option Nat :=
  if isKindB f.kind = false then some 3
  else if (isPeerB f.frm && (isPeerB f.to && isNumB f.seq)) = false then some 1
  else if f.nums.any (fun n => !isNumB n) = true then some 1
  else if f.frm = f.to then some 2
  else if 200 < f.nums.length then some 7
  else none
structure FrameOk (f : FrameD) : Prop where
  kind : f.kind = 100 ∨ f.kind = 101 ∨ f.kind = 116 ∨ f.kind = 97
  frm : 0 ≤ f.frm ∧ f.frm < 6
  to : 0 ≤ f.to ∧ f.to < 6
  seq : 0 ≤ f.seq ∧ f.seq ≤ 2147483648
  nums : ∀ n ∈ f.nums, 0 ≤ n ∧ n ≤ 2147483648
  few : f.nums.length ≤ 200
theorem frameOk_of {f : FrameD} (h : frameE f = none) : FrameOk f := by
  unfold frameE at h
  split at h
  · cases h
  rename_i h1
  split at h
  · cases h
  rename_i h2
  split at h
  · cases h
  rename_i h3
  split at h
  · cases h
  split at h
  · cases h
  rename_i h5
  have e1 : isKindB f.kind = true := by simpa using h1
  have e2 : (isPeerB f.frm && (isPeerB f.to && isNumB f.seq)) = true := by simpa using h2
  simp only [isKindB, Bool.or_eq_true, beq_iff_eq] at e1
  simp only [isPeerB, isNumB, Bool.and_eq_true, decide_eq_true_eq] at e2
  refine ⟨e1, e2.1, e2.2.1, e2.2.2, fun n hn => ?_, by omega⟩
  have h4 : ∀ x ∈ f.nums, isNumB x = true := by simpa using h3
  simpa [isNumB] using h4 n hn
/-- A frame's bytes, ahead of the sum. -/
def bodyD (f : FrameD) : Bs := highD 1 f.kind.toNat ++ highD 1 f.frm.toNat ++ highD 1 f.to.toNat ++ highD 4 f.seq.toNat ++ highD 1 f.nums.length ++ f.nums.flatMap fun n => highD 4 n.toNat
def textD (f : FrameD) : Bs := bodyD f ++ lowD (crcD (bodyD f))
end Go.Proofs.YtbppimahedbpoaaDoor

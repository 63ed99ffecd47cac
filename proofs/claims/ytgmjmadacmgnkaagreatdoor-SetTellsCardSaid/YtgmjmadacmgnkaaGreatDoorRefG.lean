/-
  The error of a list of numbers, in one word: SetError, Check, Union, Less, Both, Text and coded, each by one contract.
-/
import Derived.Test.YtgmjmadacmgnkaaGreatDoorRefC
namespace Go.Proofs.YtgmjmadacmgnkaaGreatDoor
open Go.RowKit Go.Extern.Stop Go.Stop Go.Extern

/-- The number of a list's error. -/
def Ec (zs : List Int) (c : Int) : Prop := (IsSet zs ∧ c = 0) ∨ (¬ InB zs ∧ c = 2) ∨ (InB zs ∧ ¬ Rise zs ∧ c = 10)
theorem ec_any (zs : List Int) : ∃ c, Ec zs c := by
  by_cases h : InB zs
  · by_cases g : Rise zs
    · exact ⟨0, Or.inl ⟨⟨h, g⟩, rfl⟩⟩
    · exact ⟨10, Or.inr (Or.inr ⟨h, g, rfl⟩)⟩
  · exact ⟨2, Or.inr (Or.inl ⟨h, rfl⟩)⟩
theorem Ec.zero {zs : List Int} (h : Ec zs 0) : IsSet zs := by
  rcases h with h | h | h
  · exact h.1
  · exact absurd h.2 (by decide)
  · exact absurd h.2.2 (by decide)
theorem Ec.pos {zs : List Int} {c : Int} (h : Ec zs c) (hc : c ≠ 0) : 0 < c := by
  rcases h with h | h | h
  · exact absurd h.2 hc
  · rw [h.2]; decide
  · rw [h.2.2]; decide

/-- The error of package api that a number tells. -/
def Told (a : Nat → Addr) (u : Value) (c : Int) : Prop := (u = .nilIface ∧ c = 0) ∨ ∃ i : Nat, i < 11 ∧ c = i + 1 ∧ u = .iface 161 (.pointer (some (a i)))
theorem coded_told (a : Nat → Addr) (u : Value) (c : Int) (w : World) (h : Errs w a) (ht : Told a u c) :
    Calls Tryz.prog 10 #[u, .int .i64 c] w fun e w' => e = .returned (.bool true) ∧ Below w.heap.size w w' := by
  rcases ht with ⟨rfl, rfl⟩ | ⟨i, hi, hc, rfl⟩
  · exact coded_nil w
  · exact coded_err a i c w hi hc h

theorem refErr_any (zs : List Int) (c : Int) (v : Value) (w : World) (hm : zs.length ≤ 1000000) (h : IsInts w v zs) (hc : Ec zs c) :
    Calls Tryz.prog 6 #[v] w fun e w' => e = .returned (.int .i64 c) ∧ Below w.heap.size w w' := by
  rcases hc with ⟨h1, rfl⟩ | ⟨h1, rfl⟩ | ⟨h1, h2, rfl⟩
  · exact refErr_ok zs v w hm h h1.1 h1.2
  · exact refErr_bound zs v w hm h h1
  · exact refErr_order zs v w hm h h1 h2

theorem check_no (a : Nat → Addr) (zs : List Int) (c : Int) (hc : Ec zs c) (h0 : c ≠ 0) : ∃ i : Nat, i < 11 ∧ c = i + 1 ∧ ∀ (v : Value) (w : World), zs.length ≤ 1000000 → IsInts w v zs → Three w a →
    Calls Tryz.prog 11 #[v] w fun e w' => e = .returned (.iface 161 (.pointer (some (a i)))) ∧ Below w.heap.size w w' := by
  rcases hc with ⟨h1, rfl⟩ | ⟨h1, rfl⟩ | ⟨h1, h2, rfl⟩
  · exact absurd rfl h0
  · exact ⟨1, by decide, rfl, fun v w hm h h3 => check_bound a zs v w hm h h1 h3⟩
  · exact ⟨9, by decide, rfl, fun v w hm h h3 => check_order a zs v w hm h h1 h2 h3⟩
theorem check_any (a : Nat → Addr) (zs : List Int) (c : Int) (v : Value) (w : World) (hm : zs.length ≤ 1000000) (h : IsInts w v zs) (hc : Ec zs c) (h3 : Three w a) :
    Calls Tryz.prog 11 #[v] w fun e w' => ∃ u, e = .returned u ∧ Told a u c ∧ Below w.heap.size w w' := by
  by_cases h0 : c = 0
  · subst h0
    refine (check_ok zs v w hm h hc.zero.1 hc.zero.2).mono ?_
    rintro e w' ⟨rfl, hB⟩
    exact ⟨_, rfl, Or.inl ⟨rfl, rfl⟩, hB⟩
  · obtain ⟨i, hi, hci, hk⟩ := check_no a zs c hc h0
    refine (hk v w hm h h3).mono ?_
    rintro e w' ⟨rfl, hB⟩
    exact ⟨_, rfl, Or.inr ⟨i, hi, hci, rfl⟩, hB⟩

/-- The number of the error of two lists. -/
def Ec2 (xs ys : List Int) (c : Int) : Prop := (Ec xs c ∧ c ≠ 0) ∨ (IsSet xs ∧ Ec ys c)
theorem Ec2.zero {xs ys : List Int} (h : Ec2 xs ys 0) : IsSet xs ∧ IsSet ys := by
  rcases h with h | h
  · exact absurd rfl h.2
  · exact ⟨h.1, h.2.zero⟩
theorem pair_no (a : Nat → Addr) (xs ys : List Int) (c : Int) (hc : Ec2 xs ys c) (h0 : c ≠ 0) : ∃ i : Nat, i < 11 ∧ c = i + 1 ∧ ∀ (u v : Value) (w : World), xs.length ≤ 1000000 → ys.length ≤ 1000000 → IsInts w u xs → IsInts w v ys → Three w a →
    Calls Tryz.prog 21 #[u, v] w fun e w' => e = .returned (.iface 161 (.pointer (some (a i)))) ∧ Below w.heap.size w w' := by
  rcases hc with ⟨h1, _⟩ | ⟨h1, h2⟩
  · obtain ⟨i, hi, hci, hk⟩ := check_no a xs c h1 h0
    exact ⟨i, hi, hci, fun u v w hx _ h _ h3 => pair_first (a i) u v w (hk u w hx h h3)⟩
  · obtain ⟨i, hi, hci, hk⟩ := check_no a ys c h2 h0
    exact ⟨i, hi, hci, fun u v w hx hy h g h3 => pair_second (a i) u v w (check_ok xs u w hx h h1.1 h1.2) (fun w1 hB => hk v w1 hy (g.below hB) (h3.below hB))⟩

/-- What two lists make together: a list and an error. -/
def Makes (a : Nat → Addr) (c : Int) (zs : List Int) (w w' : World) (e : Ending) : Prop :=
  ∃ (p u : Value) (ps : List Int), e = .returned (.tuple #[p, u]) ∧ Told a u c ∧ IsInts w' p ps ∧ (c = 0 → ps = zs) ∧ (c ≠ 0 → ps = []) ∧ Below w.heap.size w w'
theorem makes_ok (a : Nat → Addr) (zs : List Int) (w w' : World) (e : Ending) (h : ∃ v', e = .returned (.tuple #[v', .nilIface]) ∧ IsInts w' v' zs ∧ Below w.heap.size w w') : Makes a 0 zs w w' e := by
  obtain ⟨v', rfl, hi, hB⟩ := h
  exact ⟨v', _, zs, rfl, Or.inl ⟨rfl, rfl⟩, hi, fun _ => rfl, fun g => absurd rfl g, hB⟩
theorem makes_no (a : Nat → Addr) (c : Int) (i : Nat) (hi : i < 11) (hci : c = i + 1) (zs : List Int) (w w' : World) (e : Ending) (h : e = .returned (.tuple #[.slice none 0 0, .iface 161 (.pointer (some (a i)))]) ∧ Below w.heap.size w w') : Makes a c zs w w' e := by
  obtain ⟨rfl, hB⟩ := h
  exact ⟨_, _, [], rfl, Or.inr ⟨i, hi, hci, rfl⟩, IsInts.nil _ _ _, fun g => absurd g (by omega), fun _ => rfl, hB⟩

theorem union_any (a : Nat → Addr) (xs ys : List Int) (c : Int) (u v : Value) (w : World) (hx : xs.length ≤ 100000) (hy : ys.length ≤ 100000) (h1 : IsInts w u xs) (h2 : IsInts w v ys) (hc : Ec2 xs ys c) (h3 : Three w a) :
    Calls Tryz.prog 7 #[u, v] w fun e w' => Makes a c (norm (xs ++ ys)) w w' e := by
  by_cases h0 : c = 0
  · subst h0
    exact (union_ok xs ys u v w hx hy h1 h2 hc.zero.1 hc.zero.2).mono fun e w' h => makes_ok a _ w w' e h
  · obtain ⟨i, hi, hci, hk⟩ := pair_no a xs ys c hc h0
    exact (union_no (a i) u v w (hk u v w (by omega) (by omega) h1 h2 h3)).mono fun e w' h => makes_no a c i hi hci _ w w' e h
theorem less_any (a : Nat → Addr) (xs ys : List Int) (c : Int) (u v : Value) (w : World) (hx : xs.length ≤ 100000) (hy : ys.length ≤ 100000) (h1 : IsInts w u xs) (h2 : IsInts w v ys) (hc : Ec2 xs ys c) (h3 : Three w a) :
    Calls Tryz.prog 8 #[u, v] w fun e w' => Makes a c (xs.filter fun y => !ys.contains y) w w' e := by
  by_cases h0 : c = 0
  · subst h0
    exact (less_ok xs ys u v w hx hy h1 h2 hc.zero.1 hc.zero.2 hc.zero.2.le).mono fun e w' h => makes_ok a _ w w' e h
  · obtain ⟨i, hi, hci, hk⟩ := pair_no a xs ys c hc h0
    obtain ⟨va, vc, hv⟩ := h2.form
    exact (less_no (a i) u v w ⟨va, _, vc, hv⟩ (fun w1 hB => hk u v w1 (by omega) (by omega) (h1.below hB) (h2.below hB) (h3.below hB))).mono fun e w' h => makes_no a c i hi hci _ w w' e h
theorem both_any (a : Nat → Addr) (xs ys : List Int) (c : Int) (u v : Value) (w : World) (hx : xs.length ≤ 100000) (hy : ys.length ≤ 100000) (h1 : IsInts w u xs) (h2 : IsInts w v ys) (hc : Ec2 xs ys c) (h3 : Three w a) :
    Calls Tryz.prog 9 #[u, v] w fun e w' => Makes a c (xs.filter fun y => ys.contains y) w w' e := by
  by_cases h0 : c = 0
  · subst h0
    exact (both_ok xs ys u v w hx hy h1 h2 hc.zero.1 hc.zero.2 hc.zero.2.le).mono fun e w' h => makes_ok a _ w w' e h
  · obtain ⟨i, hi, hci, hk⟩ := pair_no a xs ys c hc h0
    obtain ⟨va, vc, hv⟩ := h2.form
    exact (both_no (a i) u v w ⟨va, _, vc, hv⟩ (fun w1 hB => hk u v w1 (by omega) (by omega) (h1.below hB) (h2.below hB) (h3.below hB))).mono fun e w' h => makes_no a c i hi hci _ w w' e h
theorem text_not (a : Nat → Addr) (zs : List Int) (c : Int) (v : Value) (w : World) (hm : zs.length ≤ 100000) (h : IsInts w v zs) (hc : Ec zs c) (h0 : c ≠ 0) (h3 : Three w a) :
    Calls Tryz.prog 20 #[v] w fun e w' => e = .returned (.string ⟨#[]⟩) ∧ Below w.heap.size w w' := by
  obtain ⟨i, _, _, hk⟩ := check_no a zs c hc h0
  exact text_no (a i) v w (hk v w (by omega) h h3)
end Go.Proofs.YtgmjmadacmgnkaaGreatDoor

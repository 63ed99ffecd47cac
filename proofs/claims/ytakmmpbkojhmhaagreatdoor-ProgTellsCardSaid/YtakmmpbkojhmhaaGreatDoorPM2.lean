/-
  Package prog: Text, by contracts.
-/
import Derived.Test.YtakmmpbkojhmhaaGreatDoorPL
namespace Go.Proofs.YtakmmpbkojhmhaaGreatDoor
open Go.RowKit Go.Extern.Stop Go.Stop Go.Extern

theorem writeString_any (B b : Nat) (l s : Bs) (w : World) (h : Lib.IsBuilder 95 5 B b (Lib.byteCells l) w) (hlen : l.length + s.length ≤ 1000000000) (hBw : B ≤ w.heap.size) :
    Calls Tryz.prog 71 #[.pointer (some ⟨b, 0, none⟩), .string (S s)] w fun e w' => ∃ q, e = .returned (.tuple #[.int .i64 q, .nilIface]) ∧ Lib.IsBuilder 95 5 B b (Lib.byteCells (l ++ s)) w' ∧ Below B w w' := by
  refine (Any.Builder_WriteString (ρ := Tryz.lays156_ren) { Tryz.lays156 with } Tryz.Builder_Extra_156 B b (Lib.byteCells l) (S s) w h (by rw [Lib.byteCells_length, S_size]; exact Nat.le_trans hlen (by decide)) hBw).mono ?_
  rintro e w' ⟨rfl, hb, hB⟩
  refine ⟨_, rfl, Or.inr ?_, hB⟩
  have : Lib.byteCells l ++ Lib.strCells (S s) = Lib.byteCells (l ++ s) := by
    unfold Lib.strCells Lib.byteCells
    rw [S_data, List.map_append]
  rw [← this]; exact hb
theorem builderAt_below {T e : TypeId} {B b : Nat} {p : Value} {bs : List Value} {w w' : World} (h : Lib.BuilderAt T e B b p bs w) (hb : Below w.heap.size w w') : Lib.BuilderAt T e B b p bs w' := by
  obtain ⟨h1, v, h2, h3, h4⟩ := h
  have hl : b < w.heap.size := (Array.getElem?_eq_some_iff.1 h2).1
  exact ⟨h1, v, by rw [hb.block b hl]; exact h2, owns_below h3 hb, h4⟩
theorem isBuilder_below {T e : TypeId} {B b : Nat} {bs : List Value} {w w' : World} (h : Lib.IsBuilder T e B b bs w) (hb : Below w.heap.size w w') : Lib.IsBuilder T e B b bs w' := by
  rcases h with h | h
  · exact Or.inl (builderAt_below h hb)
  · exact Or.inr (builderAt_below h hb)

theorem ended_snoc (ls : List Bs) (l : Bs) : ended (ls ++ [l]) = ended ls ++ (l ++ [10]) := by simp [ended]
theorem ended_le (ls : List Bs) (m : Nat) (h : ∀ l ∈ ls, l.length ≤ m) : (ended ls).length ≤ ls.length * (m + 1) := by
  induction ls with
  | nil => simp [ended]
  | cons l r ih =>
    have h1 := ih (fun x hx => h x (List.mem_cons_of_mem _ hx))
    have h2 := h l (List.mem_cons_self ..)
    have e : ended (l :: r) = (l ++ [10]) ++ ended r := by simp [ended]
    have h3 : (l :: r).length * (m + 1) = r.length * (m + 1) + (m + 1) := by rw [List.length_cons, Nat.succ_mul]
    rw [e, h3]
    simp only [List.length_append, List.length_cons, List.length_nil]
    omega
end Go.Proofs.YtakmmpbkojhmhaaGreatDoor

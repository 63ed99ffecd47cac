/-
  Package prog: what is read of a text within the bound is no large program.
-/
import Derived.Test.YtakmmpbkojhmhaaGreatDoorPZ5
namespace Go.Proofs.YtakmmpbkojhmhaaGreatDoor
open Go.RowKit Go.Extern.Stop Go.Stop Go.Extern

def Held (P : ProgD) (k : Nat) : Prop := (P.vars.length ≤ k ∧ P.funs.length ≤ k ∧ P.stmts.length ≤ k) ∧ (∀ f ∈ P.funs, f.params.length ≤ 5000) ∧ (∀ s ∈ P.stmts, s.args.length ≤ 5000)
theorem Held.mono {P : ProgD} {k l : Nat} (h : Held P k) (hl : k ≤ l) : Held P l := ⟨⟨Nat.le_trans h.1.1 hl, Nat.le_trans h.1.2.1 hl, Nat.le_trans h.1.2.2 hl⟩, h.2⟩
theorem right_args (r : Bs) (hr : r.length ≤ 4000) : (rightD r).1.args.length ≤ 5000 := by
  have h := listL_length (Lib.trimPrefix r [99, 97, 108, 108, 32])
  have h2 := trim_len r [99, 97, 108, 108, 32]
  unfold rightD
  split
  · exact Nat.zero_le _
  · split
    · show (listL _).length ≤ 5000
      omega
    · split
      · exact Nat.zero_le _
      · split
        · exact Nat.zero_le _
        · split
          · exact Nat.zero_le _
          · exact Nat.zero_le _
theorem parse_args (x : Bs) (hx : x.length ≤ 4000) : (parseD x).1.args.length ≤ 5000 := by
  have h := cut_len x eqs
  unfold parseD
  split
  · exact Nat.zero_le _
  · exact right_args _ (by omega)
theorem readLine_held (P : ProgD) (k : Nat) (x : Bs) (h : Held P k) (hx : x.length ≤ 4000) : Held (readLineD P x).1 (k + 1) := by
  have hl := readLine_len P x
  refine ⟨⟨Nat.le_trans hl.1 (Nat.succ_le_succ h.1.1), Nat.le_trans hl.2.1 (Nat.succ_le_succ h.1.2.1), Nat.le_trans hl.2.2 (Nat.succ_le_succ h.1.2.2)⟩, ?_⟩
  clear hl
  unfold readLineD
  split
  · unfold readVarD
    split
    · exact h.2
    · exact h.2
  · split
    · have h1 := listL_length (Lib.trimPrefix x [102, 110, 32])
      have h2 := trim_len x [102, 110, 32]
      unfold readFunD
      split
      · exact h.2
      · split
        · exact h.2
        · refine ⟨fun f hf => ?_, h.2.2⟩
          rcases List.mem_append.1 hf with hf | hf
          · exact h.2.1 f hf
          · rw [List.mem_singleton.1 hf]
            show (List.map _ _).length ≤ 5000
            rw [List.length_map]; omega
    · unfold readStmtD
      split
      · exact h.2
      · split
        · exact h.2
        · refine ⟨h.2.1, fun s hs => ?_⟩
          rcases List.mem_append.1 hs with hs | hs
          · exact h.2.2 s hs
          · rw [List.mem_singleton.1 hs]
            show (List.map _ _).length ≤ 5000
            rw [List.length_map]; exact parse_args x hx
theorem lines_held (n : Nat) : ∀ (cur : Bs) (P : ProgD) (k : Nat), cur.length ≤ n → k + cur.length ≤ 4000 → Held P k → Held (linesD P k cur).1 4000 := by
  induction n with
  | zero =>
    intro cur P k h1 h2 h
    have : cur = [] := List.length_eq_zero_iff.1 (Nat.le_zero.1 h1)
    rw [this, linesD_nil]
    exact h.mono (by omega)
  | succ n ih =>
    intro cur P k h1 h2 h
    rcases split_first 10 cur with h10 | ⟨x, y, rfl, h10⟩
    · rcases Decidable.em (cur = []) with hc | hc
      · rw [hc, linesD_nil]; exact h.mono (by omega)
      · rw [linesD_no P k cur h10 hc]; exact h.mono (by omega)
    · have hlen : (x ++ 10 :: y).length = x.length + y.length + 1 := by simp; omega
      have hh := readLine_held P k x h (by omega)
      rw [linesD_line P k x y h10]
      cases he : (readLineD P x).2 with
      | some e => exact hh.mono (by omega)
      | none => exact ih y _ (k + 1) (by omega) (by omega) hh
theorem lines_small (s : Bs) (hs : s.length ≤ 4000) : SmallP (linesD noProg 0 s).1 := by
  have h := lines_held s.length s noProg 0 (Nat.le_refl _) (by omega) ⟨⟨Nat.le_refl _, Nat.le_refl _, Nat.le_refl _⟩, fun _ hf => absurd hf List.not_mem_nil, fun _ hf => absurd hf List.not_mem_nil⟩
  exact ⟨by have := h.1.1; omega, by have := h.1.2.1; omega, by have := h.1.2.2; omega, fun f hf => Nat.le_trans (h.2.1 f hf) (by omega), fun q hq => Nat.le_trans (h.2.2 q hq) (by omega)⟩
end Go.Proofs.YtakmmpbkojhmhaaGreatDoor

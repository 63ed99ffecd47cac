/-
  Facts as keys of a map.
-/
import Derived.Test.YtglonlpfnllocaaGreatDoorMAM
import Derived.DeepKeys4
namespace Go.Proofs.YtglonlpfnllocaaGreatDoor
open Go.RowKit Go.Extern.Stop Go.Stop Go.Extern Go.Maps

abbrev TFa : TypeId := 102
def factLit (f : Int × Int) : Lit := .string (keyBytes [.int .i64 f.1, .int .i64 f.2])
def okF (f : Int × Int) : Prop := okI f.1 ∧ okI f.2
theorem Tryz.laidOutF : laidOutB Tryz.prog = true := by kernel_rfl
theorem Tryz.rowF : (TFa : TypeId) < Tryz.prog.types.size := of_decide_eq_true (by kernel_rfl)
theorem Tryz.lawF : WideMaps.KeyLaw Tryz.prog TFa := deep_law_laid Tryz.laidOutF (m := 2) (by omega) Tryz.rowF (by kernel_rfl) (by rw [Tryz.underlying102])
theorem Tryz.cellsF : Tryz.prog.cellsOf TFa = 2 := by kernel_rfl
theorem Tryz.cellsI : Tryz.prog.cellsOf 3 = 1 := by kernel_rfl
theorem Tryz.keyTypeF : Tryz.prog.keyType TFa = true := by kernel_rfl
theorem Tryz.sizeF : ∃ m, Tryz.prog.types.size = m + 1 := ⟨Tryz.prog.types.size - 1, by
  have : 0 < Tryz.prog.types.size := Nat.lt_of_le_of_lt (Nat.zero_le _) Tryz.rowF
  omega⟩
theorem fact_key (f : Int × Int) (h : okF f) : keyOf Tryz.prog TFa (.agg #[.int .i64 f.1, .int .i64 f.2]) = some (factLit f) := by
  obtain ⟨m, hm⟩ := Tryz.sizeF
  have h1 : (Lit.int .i64 f.1).wf = true := WalkArith.wf_i64 h.1
  have h2 : (Lit.int .i64 f.2).wf = true := WalkArith.wf_i64 h.2
  have hf : (Value.agg #[.int .i64 f.1, .int .i64 f.2]).formed Tryz.prog TFa = true := by
    unfold Value.formed
    rw [Tryz.underlying102]
    simp [Tryz.cellsF]
  have ki : ∀ x : Int, (Lit.int .i64 x).wf = true → Tryz.prog.keyLits (m + 1) 3 [.int .i64 x] = some [.int .i64 x] := fun x hx => by
    unfold Program.keyLits
    rw [Tryz.underlying3]
    simp [hx]
  unfold keyOf
  rw [Tryz.underlying102]
  simp only [Tryz.keyTypeF, hf, Bool.and_self, if_true]
  rw [hm]
  unfold Program.keyLits
  rw [Tryz.underlying102]
  simp [Value.cells, Tryz.cellsF, Tryz.cellsI, ki, h1, h2, factLit]
theorem agg_inj2 {a b c d : Int} (h : (Value.agg #[.int .i64 a, .int .i64 b]) = .agg #[.int .i64 c, .int .i64 d]) : a = c ∧ b = d := by simpa using h
theorem fact_inj (x y : Int × Int) (hx : okF x) (hy : okF y) (e : factLit x = factLit y) : x = y := by
  have h1 := fact_key x hx
  have h2 := fact_key y hy
  rw [← e] at h2
  have h3 := agg_inj2 (Tryz.lawF.inj h1 h2)
  exact Prod.ext h3.1 h3.2
theorem factKeys : KeyFn TFa (Int × Int) (fun f => .agg #[.int .i64 f.1, .int .i64 f.2]) factLit okF := ⟨Keyed.of_law Tryz.lawF, fact_key, fact_inj⟩
end Go.Proofs.YtglonlpfnllocaaGreatDoor

/-
  A []string, a []api.Fun, a []api.Stmt and an api.Program that read as plain data; isLetter, isDigit, isName, by contracts.
-/
import Derived.Test.YtimmkenmahagjaaGreatDoorBase
import Derived.Test.YtimmkenmahagjaaGreatDoorPR2
namespace Go.Proofs.YtimmkenmahagjaaGreatDoor
open Go.RowKit Go.Extern.Stop Go.Stop Go.Extern

def S (l : Bs) : ByteArray := ⟨l.toArray⟩
theorem S_data (l : Bs) : (S l).data.toList = l := by simp [S]
theorem S_toList (l : Bs) : (S l).toList = l := by rw [ByteArray.toList_eq]; exact S_data l
theorem S_size (l : Bs) : (S l).size = l.length := by rw [Lib.size_eq, S_data]
theorem S_of (s : ByteArray) : S s.data.toList = s := Lib.mk_data s
theorem S_inj {a b : Bs} (h : S a = S b) : a = b := by rw [← S_data a, h, S_data]
theorem S_append (a b : Bs) : S a ++ S b = S (a ++ b) := by
  apply ByteArray.ext
  simp [S]

/-- The value v is a []string that reads as ss in the world w. -/
def IsStrs (w : World) (v : Value) (ss : List Bs) : Prop :=
  ∃ a c, v = .slice a ss.length c ∧ ss.length ≤ c ∧ ∀ j, j < ss.length → ∃ b o, a = some ⟨b, o, none⟩ ∧ w.cell? ⟨b, o + j, none⟩ = some (.string (S (ss.getD j [])))
/-- A []int that reads as zs, whose room is no less than its length. -/
def IsCap (w : World) (v : Value) (zs : List Int) : Prop := IsInts w v zs ∧ ∃ a c, v = .slice a zs.length c ∧ zs.length ≤ c
theorem IsCap.below {w w' : World} {v : Value} {zs : List Int} (h : IsCap w v zs) (hb : Below w.heap.size w w') : IsCap w' v zs := ⟨h.1.below hb, h.2⟩
/-- The three cells of an api.Fun. -/
def FunAt (w : World) (b o : Nat) (f : FunD) : Prop :=
  ∃ pv, w.cell? ⟨b, o, none⟩ = some (.string (S f.name)) ∧ w.cell? ⟨b, o + 1, none⟩ = some pv ∧ IsCap w pv f.params ∧ w.cell? ⟨b, o + 2, none⟩ = some (.int .i64 f.ret)
def IsFuns (w : World) (v : Value) (fs : List FunD) : Prop :=
  ∃ a c, v = .slice a fs.length c ∧ fs.length ≤ c ∧ ∀ j, j < fs.length → ∃ b o, a = some ⟨b, o, none⟩ ∧ FunAt w b (o + j * 3) (fs.getD j default)
/-- The four cells of an api.Stmt. -/
def StmtAt (w : World) (b o : Nat) (s : StmtD) : Prop :=
  ∃ pv, w.cell? ⟨b, o, none⟩ = some (.string (S s.kind)) ∧ w.cell? ⟨b, o + 1, none⟩ = some (.int .i64 s.x) ∧ w.cell? ⟨b, o + 2, none⟩ = some (.int .i64 s.y) ∧ w.cell? ⟨b, o + 3, none⟩ = some pv ∧ IsCap w pv s.args
def IsStmts (w : World) (v : Value) (ss : List StmtD) : Prop :=
  ∃ a c, v = .slice a ss.length c ∧ ss.length ≤ c ∧ ∀ j, j < ss.length → ∃ b o, a = some ⟨b, o, none⟩ ∧ StmtAt w b (o + j * 4) (ss.getD j default)
structure IsProg (w : World) (v1 v2 v3 : Value) (P : ProgD) : Prop where
  vars : IsStrs w v1 P.vars
  funs : IsFuns w v2 P.funs
  stmts : IsStmts w v3 P.stmts

theorem IsStrs.below {w w' : World} {v : Value} {ss : List Bs} (h : IsStrs w v ss) (hb : Below w.heap.size w w') : IsStrs w' v ss := by
  obtain ⟨a, c, rfl, hcp, hc⟩ := h
  refine ⟨a, c, rfl, hcp, fun j hj => ?_⟩
  obtain ⟨b, o, ha, e⟩ := hc j hj
  exact ⟨b, o, ha, cell_keep hb e⟩
theorem FunAt.below {w w' : World} {b o : Nat} {f : FunD} (h : FunAt w b o f) (hb : Below w.heap.size w w') : FunAt w' b o f := by
  obtain ⟨pv, h1, h2, h3, h4⟩ := h
  exact ⟨pv, cell_keep hb h1, cell_keep hb h2, h3.below hb, cell_keep hb h4⟩
theorem StmtAt.below {w w' : World} {b o : Nat} {s : StmtD} (h : StmtAt w b o s) (hb : Below w.heap.size w w') : StmtAt w' b o s := by
  obtain ⟨pv, h1, h2, h3, h4, h5⟩ := h
  exact ⟨pv, cell_keep hb h1, cell_keep hb h2, cell_keep hb h3, cell_keep hb h4, h5.below hb⟩
theorem IsFuns.below {w w' : World} {v : Value} {ss : List FunD} (h : IsFuns w v ss) (hb : Below w.heap.size w w') : IsFuns w' v ss := by
  obtain ⟨a, c, rfl, hcp, hc⟩ := h
  refine ⟨a, c, rfl, hcp, fun j hj => ?_⟩
  obtain ⟨b, o, ha, e⟩ := hc j hj
  exact ⟨b, o, ha, e.below hb⟩
theorem IsStmts.below {w w' : World} {v : Value} {ss : List StmtD} (h : IsStmts w v ss) (hb : Below w.heap.size w w') : IsStmts w' v ss := by
  obtain ⟨a, c, rfl, hcp, hc⟩ := h
  refine ⟨a, c, rfl, hcp, fun j hj => ?_⟩
  obtain ⟨b, o, ha, e⟩ := hc j hj
  exact ⟨b, o, ha, e.below hb⟩
theorem IsProg.below {w w' : World} {v1 v2 v3 : Value} {P : ProgD} (h : IsProg w v1 v2 v3 P) (hb : Below w.heap.size w w') : IsProg w' v1 v2 v3 P := ⟨h.vars.below hb, h.funs.below hb, h.stmts.below hb⟩
theorem isInts_form {w : World} {v : Value} {zs : List Int} (h : IsInts w v zs) : ∃ a c, v = .slice a zs.length c := by
  rcases h with ⟨rfl, a, c, rfl⟩ | ⟨_, b, o, c, rfl, _⟩
  · exact ⟨a, c, rfl⟩
  · exact ⟨_, c, rfl⟩
theorem isInts_at {w : World} {a : Option Addr} {n c : Nat} {zs : List Int} (h : IsInts w (.slice a n c) zs) (j : Nat) (hj : j < zs.length) : ∃ b o, a = some ⟨b, o, none⟩ ∧ w.cell? ⟨b, o + j, none⟩ = some (.int .i64 (zs.getD j 0)) := by
  rcases h with ⟨rfl, a, c, hv⟩ | ⟨_, b, o, c, hv, hc⟩
  · exact absurd hj (Nat.not_lt_zero _)
  · exact ⟨b, o, (Value.slice.inj hv).1, hc j hj⟩

/-- isLetter and isDigit. -/
theorem isLetter_any (c : UInt8) (w : World) : Calls Tryz.prog 126 #[.int .u8 (c.toNat : Int)] w fun e w' => e = .returned (.bool (isLet c)) ∧ w' = w := by
  by_cases h1 : (97 : Int) ≤ (c.toNat : Int)
  · by_cases h2 : (c.toNat : Int) ≤ 122
    · have e : isLet c = true := by unfold isLet; simp; omega
      rw [e]; clear e
      go_enter Tryz.func126, Tryz.ntmps126
      go_wp2
      go_ret
      exact ⟨rfl, rfl⟩
    · have e : isLet c = false := by unfold isLet; simp; omega
      rw [e]; clear e
      go_enter Tryz.func126, Tryz.ntmps126
      go_wp2
      go_ret
      exact ⟨rfl, rfl⟩
  · have e : isLet c = false := by unfold isLet; simp; omega
    rw [e]; clear e
    go_enter Tryz.func126, Tryz.ntmps126
    go_wp2
    go_ret
    exact ⟨rfl, rfl⟩
theorem isDigit_any (c : UInt8) (w : World) : Calls Tryz.prog 127 #[.int .u8 (c.toNat : Int)] w fun e w' => e = .returned (.bool (isDig c)) ∧ w' = w := by
  by_cases h1 : (48 : Int) ≤ (c.toNat : Int)
  · by_cases h2 : (c.toNat : Int) ≤ 57
    · have e : isDig c = true := by unfold isDig; simp; omega
      rw [e]; clear e
      go_enter Tryz.func127, Tryz.ntmps127
      go_wp2
      go_ret
      exact ⟨rfl, rfl⟩
    · have e : isDig c = false := by unfold isDig; simp; omega
      rw [e]; clear e
      go_enter Tryz.func127, Tryz.ntmps127
      go_wp2
      go_ret
      exact ⟨rfl, rfl⟩
  · have e : isDig c = false := by unfold isDig; simp; omega
    rw [e]; clear e
    go_enter Tryz.func127, Tryz.ntmps127
    go_wp2
    go_ret
    exact ⟨rfl, rfl⟩
end Go.Proofs.YtimmkenmahagjaaGreatDoor

/-
  Package prog: readLine, by a contract, where readStmt keeps its own.
-/
import Derived.Test.YtakmmpbkojhmhaaGreatDoorPX
namespace Go.Proofs.YtakmmpbkojhmhaaGreatDoor
open Go.RowKit Go.Extern.Stop Go.Stop Go.Extern

/-- readStmt's contract. -/
def ReadStmtOk : Prop := ∀ (a : Nat → Addr) (B pb : Nat) (P : ProgD) (s : Bs) (v1 v2 v3 : Value) (ps qs : List Value) (w : World), St w B pb P v1 v2 v3 ps qs → P.vars.length ≤ 100000 → P.funs.length ≤ 100000 → P.stmts.length ≤ 100000 → s.length ≤ 10000 → Errs5 w a → MaxL w →
  Calls Tryz.prog 147 #[.pointer (some ⟨pb, 0, none⟩), .string (S s)] w fun e w' => Does a B pb w w' (readStmtD P s) e

set_option maxHeartbeats 2000000 in
theorem readLine_any (OK : ReadStmtOk) (a : Nat → Addr) (B pb : Nat) (P : ProgD) (s : Bs) (v1 v2 v3 : Value) (ps qs : List Value) (w : World) (hst : St w B pb P v1 v2 v3 ps qs) (hl1 : P.vars.length ≤ 100000) (hl2 : P.funs.length ≤ 100000) (hl3 : P.stmts.length ≤ 100000) (hz : s.length ≤ 10000) (hE : Errs5 w a) (hM : MaxL w) :
    Calls Tryz.prog 114 #[.pointer (some ⟨pb, 0, none⟩), .string (S s)] w fun e w' => Does a B pb w w' (readLineD P s) e := by
  have t1 := trim_len s [118, 97, 114, 32]
  have t2 := trim_len s [102, 110, 32]
  have KV : Hid (Calls Tryz.prog 145 #[.pointer (some ⟨pb, 0, none⟩), .string (S (Lib.trimPrefix s [118, 97, 114, 32]))] w fun e w' => Does a B pb w w' (readVarD P (Lib.trimPrefix s [118, 97, 114, 32])) e) := readVar_any a B pb P _ v1 v2 v3 ps qs w hst hl1 (by omega) hE
  have KF : Hid (Calls Tryz.prog 146 #[.pointer (some ⟨pb, 0, none⟩), .string (S (Lib.trimPrefix s [102, 110, 32]))] w fun e w' => Does a B pb w w' (readFunD P (Lib.trimPrefix s [102, 110, 32])) e) := readFun_any a B pb P _ v1 v2 v3 ps qs w hst hl1 hl2 (by omega) hE hM
  have KS : Hid (Calls Tryz.prog 147 #[.pointer (some ⟨pb, 0, none⟩), .string (S s)] w fun e w' => Does a B pb w w' (readStmtD P s) e) := OK a B pb P s v1 v2 v3 ps qs w hst hl1 hl2 hl3 hz hE hM
  have C1 : Hid (Calls Tryz.prog 92 #[.string (S s), .string ⟨#[118, 97, 114, 32]⟩] w fun e w' => e = .returned (.tuple #[.string (S (Lib.trimPrefix s [118, 97, 114, 32])), .bool (Lib.hasPrefix s [118, 97, 114, 32])]) ∧ w' = w) := cutp_any s [118, 97, 114, 32] w
  have C2 : Hid (Calls Tryz.prog 92 #[.string (S s), .string ⟨#[102, 110, 32]⟩] w fun e w' => e = .returned (.tuple #[.string (S (Lib.trimPrefix s [102, 110, 32])), .bool (Lib.hasPrefix s [102, 110, 32])]) ∧ w' = w) := cutp_any s [102, 110, 32] w
  have HR : Hid (readLineD P s = if Lib.hasPrefix s [118, 97, 114, 32] then readVarD P (Lib.trimPrefix s [118, 97, 114, 32]) else if Lib.hasPrefix s [102, 110, 32] then readFunD P (Lib.trimPrefix s [102, 110, 32]) else readStmtD P s) := by
    show readLineD P s = _
    unfold readLineD; rfl
  obtain ⟨x1, hx1⟩ : ∃ x, x = Lib.trimPrefix s [118, 97, 114, 32] := ⟨_, rfl⟩
  obtain ⟨x2, hx2⟩ : ∃ x, x = Lib.trimPrefix s [102, 110, 32] := ⟨_, rfl⟩
  obtain ⟨D1, hD1⟩ : ∃ x, x = Lib.hasPrefix s [118, 97, 114, 32] := ⟨_, rfl⟩
  obtain ⟨D2, hD2⟩ : ∃ x, x = Lib.hasPrefix s [102, 110, 32] := ⟨_, rfl⟩
  rw [← hx1, ← hx2, ← hD1, ← hD2] at HR
  rw [← hx1] at KV
  rw [← hx2] at KF
  rw [← hx1, ← hD1] at C1
  rw [← hx2, ← hD2] at C2
  obtain ⟨y1, hy1⟩ : ∃ x, x = S x1 := ⟨_, rfl⟩
  obtain ⟨y2, hy2⟩ : ∃ x, x = S x2 := ⟨_, rfl⟩
  obtain ⟨ys, hys⟩ : ∃ x, x = S s := ⟨_, rfl⟩
  rw [← hy1] at KV C1
  rw [← hy2] at KF C2
  rw [← hys] at C1 C2 KS ⊢
  clear hx1 hx2 hD1 hD2 hy1 hy2 hys t1 t2 hst hl1 hl2 hl3 hz hE hM OK
  cases D1 with
  | true =>
    have hX : Hid (readLineD P s = readVarD P x1) := by show readLineD P s = _; rw [HR.out]; rfl
    clear HR
    go_enter Tryz.func114, Tryz.ntmps114
    go_wp2_with fail
    refine C1.out.mono ?_
    rintro e w1 ⟨rfl, hw⟩
    obtain rfl := hw.symm
    clear hw
    go_wp2_with fail
    refine KV.out.mono ?_
    rintro e w1 ⟨rfl, h2, h3⟩
    have HF : Hid (Does a B pb w w1 (readLineD P s) (.returned (errV a (readVarD P x1).2))) := by
      rw [hX.out]; exact ⟨rfl, h2, h3⟩
    obtain ⟨E, hE⟩ : ∃ E, E = errV a (readVarD P x1).2 := ⟨_, rfl⟩
    rw [← hE] at HF ⊢
    clear hE h2 h3
    go_wp2_with fail
    go_ret
    exact HF.out
  | false =>
    cases D2 with
    | true =>
      have hX : Hid (readLineD P s = readFunD P x2) := by show readLineD P s = _; rw [HR.out]; rfl
      clear HR
      go_enter Tryz.func114, Tryz.ntmps114
      go_wp2_with fail
      refine C1.out.mono ?_
      rintro e w1 ⟨rfl, hw⟩
      obtain rfl := hw.symm
      clear hw
      go_wp2_with fail
      refine C2.out.mono ?_
      rintro e w1 ⟨rfl, hw⟩
      obtain rfl := hw.symm
      clear hw
      go_wp2_with fail
      refine KF.out.mono ?_
      rintro e w1 ⟨rfl, h2, h3⟩
      have HF : Hid (Does a B pb w w1 (readLineD P s) (.returned (errV a (readFunD P x2).2))) := by
        rw [hX.out]; exact ⟨rfl, h2, h3⟩
      obtain ⟨E, hE⟩ : ∃ E, E = errV a (readFunD P x2).2 := ⟨_, rfl⟩
      rw [← hE] at HF ⊢
      clear hE h2 h3
      go_wp2_with fail
      go_ret
      exact HF.out
    | false =>
      have hX : Hid (readLineD P s = readStmtD P s) := by show readLineD P s = _; rw [HR.out]; rfl
      clear HR
      go_enter Tryz.func114, Tryz.ntmps114
      go_wp2_with fail
      refine C1.out.mono ?_
      rintro e w1 ⟨rfl, hw⟩
      obtain rfl := hw.symm
      clear hw
      go_wp2_with fail
      refine C2.out.mono ?_
      rintro e w1 ⟨rfl, hw⟩
      obtain rfl := hw.symm
      clear hw
      go_wp2_with fail
      refine KS.out.mono ?_
      rintro e w1 ⟨rfl, h2, h3⟩
      have HF : Hid (Does a B pb w w1 (readLineD P s) (.returned (errV a (readStmtD P s).2))) := by
        rw [hX.out]; exact ⟨rfl, h2, h3⟩
      obtain ⟨E, hE⟩ : ∃ E, E = errV a (readStmtD P s).2 := ⟨_, rfl⟩
      rw [← hE] at HF ⊢
      clear hE h2 h3
      go_wp2_with fail
      go_ret
      exact HF.out
end Go.Proofs.YtakmmpbkojhmhaaGreatDoor

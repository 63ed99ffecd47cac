/-
  faulted: an error's number and place, by a contract.
-/
import Derived.Test.YtfajpkdpnpdfkaaGreatDoorXKM
import Derived.Test.YtfajpkdpnpdfkaaGreatDoorPIM
namespace Go.Proofs.YtfajpkdpnpdfkaaGreatDoor
open Go.RowKit Go.Extern.Stop Go.Stop Go.Extern

theorem funsE_lt {P : ProgD} {i : Nat} (h : funsE P = some i) : i < 11 := by
  unfold funsE at h
  split at h
  · cases h; decide
  · split at h
    · cases h; decide
    · split at h
      · cases h; decide
      · cases h
theorem namesE_lt {vs fs : List Bs} {i : Nat} (h : namesE vs fs = some i) : i < 11 := by
  unfold namesE at h
  split at h
  · cases h; decide
  · split at h
    · cases h; decide
    · cases h
theorem stmtE_lt {P : ProgD} {s : StmtD} {i : Nat} (h : stmtE P s = some i) : i < 11 := by
  unfold stmtE at h
  repeat' split at h
  all_goals cases h
  all_goals decide
theorem stmtsE_lt {P : ProgD} (l : List StmtD) (k : Nat) {x : Nat × Int} (h : stmtsE P k l = some x) : x.1 < 11 := by
  induction l generalizing k with
  | nil => cases h
  | cons s r ih =>
    unfold stmtsE at h
    cases he : stmtE P s with
    | none => rw [he] at h; exact ih (k + 1) h
    | some e => rw [he] at h; cases h; exact stmtE_lt he
theorem checkE_lt {P : ProgD} {x : Nat × Int} (h : checkE P = some x) : x.1 < 11 := by
  unfold checkE at h
  split at h
  · cases h; decide
  · cases hn : namesE P.vars (fnames P) with
    | some e => rw [hn] at h; cases h; exact namesE_lt hn
    | none =>
      rw [hn] at h
      cases hf : funsE P with
      | some e => rw [hf] at h; cases h; exact funsE_lt hf
      | none => rw [hf] at h; exact stmtsE_lt _ _ h

set_option maxHeartbeats 2000000 in
theorem faulted_any (a : Nat → Addr) (e : ErrD) (v : Value) (c n : Int) (w : World) (hE : Errs w a) (hv : ErrV w a e v) (hl : ∀ x, e = some x → x.1 < 11) (hc : c = codeE e) (hn : n = placeE e) :
    Calls Tryz.prog 14 #[v, .agg #[.int .i64 c, .int .i64 n]] w fun r w' => r = .returned (.bool true) ∧ Below w.heap.size w w' := by
  have HE : Hid (Errs w a) := hE
  rcases hv with ⟨rfl, rfl⟩ | ⟨i, rfl, rfl⟩ | ⟨i, m, b, o, rfl, hm0, rfl, h1, h2⟩
  · subst hc hn
    clear hE hl
    unfold codeE placeE
    go_enter Tryz.func14, Tryz.ntmps14
    go_wp2_with (go_at_call 46; refine (code_nil _).mono ?_; rintro e w' ⟨rfl, rfl⟩)
    go_ret
    exact ⟨rfl, below1 _ _⟩
  · have hi : i < 11 := hl (i, -1) rfl
    have hc' : c = (i : Int) + 1 := hc
    have hn' : n = -1 := hn
    obtain ⟨W, hW⟩ : ∃ W, W = w.alloc (.cells #[.int .i64 c, .int .i64 n] 34) := ⟨_, rfl⟩
    have hBW : Below w.heap.size w W := by rw [hW]; exact below1 _ _
    have HC : Hid (W.cell? ⟨w.heap.size, 0, none⟩ = some (.int .i64 c) ∧ W.cell? ⟨w.heap.size, 1, none⟩ = some (.int .i64 n)) := by
      constructor <;> rw [hW] <;> simp
    have K : Hid (Calls Tryz.prog 46 #[.iface 281 (.pointer (some (a i)))] W fun e w' => e = .returned (.tuple #[.int .i64 c, .int .i64 n]) ∧ Below W.heap.size W w') := by
      rw [hc', hn']; exact code_err a i W hi (HE.out.below hBW)
    have hcp : ¬ c = 0 := by omega
    rw [hW] at K
    clear hc hn hc' hn' hl hE
    go_enter Tryz.func14, Tryz.ntmps14
    go_wp2_with fail
    refine K.out.mono ?_
    rintro e w' ⟨rfl, hb⟩
    rw [← hW] at hb
    have k0 := cell_keep hb HC.out.1
    have k1 := cell_keep hb HC.out.2
    have hcb : (c == 0) = false := beq_eq_false_iff_ne.2 hcp
    clear K hW
    go_wp2_with fail
    go_ret
    exact ⟨rfl, hBW.trans (hb.mono hBW.size)⟩
  · have hi : i < 11 := hl (i, m) rfl
    have hc' : c = (i : Int) + 1 := hc
    have hn' : n = m := hn
    obtain ⟨W, hW⟩ : ∃ W, W = w.alloc (.cells #[.int .i64 c, .int .i64 n] 34) := ⟨_, rfl⟩
    have hBW : Below w.heap.size w W := by rw [hW]; exact below1 _ _
    have HC : Hid (W.cell? ⟨w.heap.size, 0, none⟩ = some (.int .i64 c) ∧ W.cell? ⟨w.heap.size, 1, none⟩ = some (.int .i64 n)) := by
      constructor <;> rw [hW] <;> simp
    have K : Hid (Calls Tryz.prog 46 #[.iface 128 (.pointer (some ⟨b, o, none⟩))] W fun e w' => e = .returned (.tuple #[.int .i64 c, .int .i64 n]) ∧ Below W.heap.size W w') := by
      rw [hc', hn']; exact code_fault a i b o m W hi (cell_keep hBW h1) (cell_keep hBW h2) (HE.out.below hBW)
    have hcp : ¬ c = 0 := by omega
    rw [hW] at K
    clear hc hn hc' hn' hl hE h1 h2 hm0
    go_enter Tryz.func14, Tryz.ntmps14
    go_wp2_with fail
    refine K.out.mono ?_
    rintro e w' ⟨rfl, hb⟩
    rw [← hW] at hb
    have k0 := cell_keep hb HC.out.1
    have k1 := cell_keep hb HC.out.2
    have hcb : (c == 0) = false := beq_eq_false_iff_ne.2 hcp
    clear K hW
    go_wp2_with fail
    go_ret
    exact ⟨rfl, hBW.trans (hb.mono hBW.size)⟩
end Go.Proofs.YtfajpkdpnpdfkaaGreatDoor

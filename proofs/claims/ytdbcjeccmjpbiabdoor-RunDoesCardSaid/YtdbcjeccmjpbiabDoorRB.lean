/-
  Package run: (*cell).holds, (*cell).value, checkScript, by contracts.
-/
import Derived.Test.YtdbcjeccmjpbiabDoorRA
namespace Go.Proofs.YtdbcjeccmjpbiabDoor
open Go.RowKit Go.Extern.Stop Go.Stop Go.Extern

def holdsO : Option Ref → Bool
  | none => false
  | some r => !r.isFn
theorem cell_kind {w : World} {B : Nat} {l : Lay} {s : StD} {r : Ref} (h : CellAt w B l s r) : w.cell? ⟨l.at r, 0, none⟩ = some (.string (refKind r)) ∧ w.cell? ⟨l.at r, 1, none⟩ = some (.int .i64 (refNo r : Int)) ∧ w.cell? ⟨l.at r, 2, none⟩ = some (hasV l (s.get r)) ∧ w.frozen? ⟨l.at r, 2, none⟩ = false := by
  refine ⟨?_, ?_, ?_, frozen_of_block h.2 2⟩
  · rw [Lib.cell_of_heap h.2]; rfl
  · rw [Lib.cell_of_heap h.2]; rfl
  · rw [Lib.cell_of_heap h.2]; rfl
theorem kind_fn (r : Ref) : ((refKind r).toList == [102, 117, 110]) = r.isFn := by
  cases r using ref_cases with
  | var i => simp only [refKind, Ref.isFn, ByteArray.toList_eq]; decide
  | thing i => simp only [refKind, Ref.isFn, ByteArray.toList_eq]; decide
  | fn i => simp only [refKind, Ref.isFn, ByteArray.toList_eq]; decide

theorem holds_any (l : Lay) (x : Option Ref) (w : World) (h : ∀ r, x = some r → w.cell? ⟨l.at r, 0, none⟩ = some (.string (refKind r))) :
    Calls Tryd.prog 41 #[hasV l x] w fun e w' => e = .returned (.bool (holdsO x)) ∧ w' = w := by
  cases x with
  | none =>
    unfold hasV holdsO
    go_enter Tryd.func41, Tryd.ntmps41
    go_wp2_with fail
    go_ret
    exact ⟨rfl, rfl⟩
  | some r =>
    have h0 := h r rfl
    have hk := kind_fn r
    unfold hasV holdsO
    simp only [Option.map_some]
    obtain ⟨bk, hbk⟩ : ∃ b, b = refKind r := ⟨_, rfl⟩
    obtain ⟨F, hF⟩ : ∃ F, F = r.isFn := ⟨_, rfl⟩
    obtain ⟨b, hb⟩ : ∃ b, b = l.at r := ⟨_, rfl⟩
    rw [← hbk] at h0 hk
    rw [← hF] at hk ⊢
    rw [← hb] at h0 ⊢
    clear h hbk hF hb
    go_enter Tryd.func41, Tryd.ntmps41
    go_wp2_with fail
    go_ret
    exact ⟨rfl, rfl⟩

def valK : Option Ref → ByteArray
  | none => ⟨#[110, 111, 110, 101]⟩
  | some r => refKind r
def valN : Option Ref → Int
  | none => 0
  | some r => (refNo r : Int)
theorem value_any (l : Lay) (b : Nat) (x : Option Ref) (w : World) (hc : w.cell? ⟨b, 2, none⟩ = some (hasV l x)) (h : ∀ r, x = some r → w.cell? ⟨l.at r, 0, none⟩ = some (.string (refKind r)) ∧ w.cell? ⟨l.at r, 1, none⟩ = some (.int .i64 (refNo r : Int))) :
    Calls Tryd.prog 60 #[ptrV b] w fun e w' => e = .returned (.agg #[.string (valK x), .int .i64 (valN x)]) ∧ Below w.heap.size w w' := by
  have hbz : b < w.heap.size := lt_of_cell hc
  have hc' := fun o => cell_keep (below1 w o) hc
  cases x with
  | none =>
    unfold hasV at hc hc'
    simp only [Option.map_none] at hc hc'
    unfold valK valN ptrV
    go_enter Tryd.func60, Tryd.ntmps60
    go_wp2_with fail
    refine bodyPost_ret (v := .agg #[.string ⟨#[110, 111, 110, 101]⟩, .int .i64 0]) (by simp [results, Tryd.results60, go_sem]) rfl ?_
    exact ⟨rfl, below1 _ _⟩
  | some r =>
    obtain ⟨h0, h1⟩ := h r rfl
    unfold hasV at hc hc'
    simp only [Option.map_some] at hc hc'
    unfold valK valN ptrV
    simp only
    obtain ⟨bk, hbk⟩ : ∃ b, b = refKind r := ⟨_, rfl⟩
    obtain ⟨n, hn⟩ : ∃ n, n = (refNo r : Int) := ⟨_, rfl⟩
    obtain ⟨c, hcc⟩ : ∃ b, b = l.at r := ⟨_, rfl⟩
    rw [← hbk] at h0 ⊢
    rw [← hn] at h1 ⊢
    rw [← hcc] at h0 h1 hc hc'
    have h0' := fun o => cell_keep (below1 w o) h0
    have h1' := fun o => cell_keep (below1 w o) h1
    clear h hbk hn hcc
    go_enter Tryd.func60, Tryd.ntmps60
    go_wp2_with fail
    refine bodyPost_ret (v := .agg #[.string bk, .int .i64 n]) (by simp [results, Tryd.results60, go_sem]) rfl ?_
    exact ⟨rfl, below1 _ _⟩

/-- The first number of a script that is no statement's. -/
def scriptE (n : Nat) (k : Nat) : List Int → ErrD
  | [] => none
  | z :: r => if 0 ≤ z ∧ z < (n : Int) then scriptE n (k + 1) r else some (1, (k : Int))
def doneE (n : Nat) (zs : List Int) : ErrD := if 2000 < zs.length then some (7, -1) else scriptE n 0 zs
theorem scriptE_at (n : Nat) (zs : List Int) (b k : Nat) (hk : k < zs.length) (h : ∀ j, j < k → 0 ≤ zs.getD j 0 ∧ zs.getD j 0 < (n : Int)) (hn : ¬ (0 ≤ zs.getD k 0 ∧ zs.getD k 0 < (n : Int))) : scriptE n b zs = some (1, ((b + k : Nat) : Int)) := by
  induction zs generalizing b k with
  | nil => simp at hk
  | cons z r ih =>
    unfold scriptE
    cases k with
    | zero => rw [if_neg (by simpa [List.getD] using hn)]; rfl
    | succ k =>
      rw [if_pos (by simpa [List.getD] using h 0 (by omega))]
      have := ih (b + 1) k (by simpa using hk) (fun j hj => by simpa [List.getD] using h (j + 1) (by omega)) (by simpa [List.getD] using hn)
      rw [this, show b + 1 + k = b + (k + 1) by omega]
theorem scriptE_all (n : Nat) (zs : List Int) (b : Nat) (h : ∀ j, j < zs.length → 0 ≤ zs.getD j 0 ∧ zs.getD j 0 < (n : Int)) : scriptE n b zs = none := by
  induction zs generalizing b with
  | nil => rfl
  | cons z r ih =>
    unfold scriptE
    rw [if_pos (by simpa [List.getD] using h 0 (by simp))]
    exact ih (b + 1) (fun j hj => by simpa [List.getD] using h (j + 1) (by simpa using hj))

set_option maxHeartbeats 2000000 in
theorem checkScript_any (a : Nat → Addr) (n : Nat) (zs : List Int) (v : Value) (w : World) (hE : Errs5 w a) (hm : zs.length ≤ 1000000) (h : IsInts w v zs) :
    Calls Tryd.prog 20 #[v, .int .i64 (n : Int)] w fun e w' => ∃ v', e = .returned v' ∧ ErrV w' a (doneE n zs) v' ∧ Below w.heap.size w w' := by
  obtain ⟨a0, c, rfl⟩ := isInts_form h
  have HC : Hid (∀ j, j < zs.length → ∃ b o, a0 = some ⟨b, o, none⟩ ∧ w.cell? ⟨b, o + j, none⟩ = some (.int .i64 (zs.getD j 0))) := fun j hj => isInts_at h j hj
  have e7 := hE.c7
  have HE : Hid (Errs5 w a) := hE
  obtain ⟨R, hR⟩ : ∃ R, R = doneE n zs := ⟨_, rfl⟩
  rw [← hR]
  have HR : Hid (R = doneE n zs) := hR
  obtain ⟨m, hmm⟩ : ∃ m, m = zs.length := ⟨_, rfl⟩
  have HM : Hid (m = zs.length) := hmm
  rw [← hmm] at hm ⊢
  clear h hE hR hmm
  by_cases g : 2000 < (m : Int)
  · have hb : Hid (R = some (7, -1)) := by show R = _; rw [HR.out]; unfold doneE; rw [if_pos (by rw [← HM.out]; omega)]
    go_enter Tryd.func20, Tryd.ntmps20
    go_wp2_with fail
    go_ret
    exact ⟨_, rfl, by rw [hb.out]; exact Or.inr (Or.inl ⟨7, rfl, rfl⟩), Below.refl _ _⟩
  have HS : Hid (R = scriptE n 0 zs) := by show R = _; rw [HR.out]; unfold doneE; rw [if_neg (by rw [← HM.out]; omega)]
  clear e7 HR
  go_enter Tryd.func20, Tryd.ntmps20
  go_wp2_with fail
  go_loopw [13] (fun t wr => ∃ k : Nat, k ≤ m ∧ t = .int .i64 k ∧ wr = w ∧ ∀ j, j < k → 0 ≤ zs.getD j 0 ∧ zs.getD j 0 < (n : Int)) (fun t _ => (m - intOf t).toNat)
  case atStart => exact ⟨0, Nat.zero_le _, rfl, rfl, fun j hj => absurd hj (Nat.not_lt_zero _)⟩
  case round =>
    obtain ⟨k, hk, rfl, hwr, hall⟩ := hrel
    obtain rfl := hwr.symm
    have HA : Hid (∀ j, j < k → 0 ≤ zs.getD j 0 ∧ zs.getD j 0 < (n : Int)) := hall
    clear hwr hall
    by_cases hlt : k < m
    · have hl : k < zs.length := by rw [← HM.out]; exact hlt
      obtain ⟨b, o, rfl, e0⟩ := HC.out k hl
      obtain ⟨z, hz⟩ : ∃ z, z = zs.getD k 0 := ⟨_, rfl⟩
      rw [← hz] at e0
      have HN : Hid (0 ≤ z ∧ z < (n : Int) → ∀ j, j < k + 1 → 0 ≤ zs.getD j 0 ∧ zs.getD j 0 < (n : Int)) := fun g j hj => by
        rcases Nat.lt_succ_iff_lt_or_eq.1 hj with q | q
        · exact HA.out j q
        · rw [q, ← hz]; exact g
      have HF : Hid (¬ (0 ≤ z ∧ z < (n : Int)) → R = some (1, (k : Int))) := fun g => by
        rw [HS.out, scriptE_at n zs 0 k hl HA.out (by rw [← hz]; exact g), Nat.zero_add]
      have e1 := HE.out.c1
      have e1' := fun o => cell_keep (below1 w o) e1
      clear hl hz HA
      by_cases g1 : z < 0
      · have hb : Hid (R = some (1, (k : Int))) := HF.out (fun q => by omega)
        clear HN HF
        go_wp2_with fail
        go_ret
        refine ⟨_, rfl, by rw [hb.out]; exact Or.inr (Or.inr ⟨1, k, w.heap.size, 0, rfl, by omega, rfl, by simp, by simp⟩), ?_⟩
        exact below1 _ _
      · by_cases g2 : (n : Int) ≤ z
        · have hb : Hid (R = some (1, (k : Int))) := HF.out (fun q => by omega)
          clear HN HF
          go_wp2_with fail
          go_ret
          refine ⟨_, rfl, by rw [hb.out]; exact Or.inr (Or.inr ⟨1, k, w.heap.size, 0, rfl, by omega, rfl, by simp, by simp⟩), ?_⟩
          exact below1 _ _
        · have HN2 : Hid (∀ j, j < k + 1 → 0 ≤ zs.getD j 0 ∧ zs.getD j 0 < (n : Int)) := HN.out ⟨by omega, by omega⟩
          clear HN HF
          go_wp2_with fail
          go_roundw
          case rel => exact ⟨k + 1, hlt, by go_num, trivial, HN2.out⟩
          case measure => simp [intOf]; omega
    · have hb : Hid (R = none) := by
        show R = none
        rw [HS.out]
        exact scriptE_all n zs 0 (fun j hj => HA.out j (by rw [← HM.out] at hj; omega))
      go_wp2_with fail
      go_ret
      exact ⟨_, rfl, by rw [hb.out]; exact Or.inl ⟨rfl, rfl⟩, Below.refl _ _⟩
end Go.Proofs.YtdbcjeccmjpbiabDoor

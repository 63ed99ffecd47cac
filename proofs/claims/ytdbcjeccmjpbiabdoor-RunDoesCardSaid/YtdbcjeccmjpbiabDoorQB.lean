/-
  The document's answers on programs: Has, areVars, StmtError, Bare, Fine of package fingerpostref1, by contracts.
-/
import Derived.Test.YtdbcjeccmjpbiabDoorQA
import Derived.Lib.QuietBelow
import Derived.Deep.DeepCutAuto
namespace Go.Proofs.YtdbcjeccmjpbiabDoor
open Go.RowKit Go.Extern.Stop Go.Stop Go.Extern

set_option maxHeartbeats 2000000 in
/-- Has. -/
theorem refHas_any (zs : List Int) (x : Int) (v : Value) (w : World) (hm : zs.length ≤ 1000000) (h : IsInts w v zs) : Calls Tryd.prog 27 #[v, .int .i64 x] w fun e w' => e = .returned (.bool (zs.contains x)) ∧ w' = w := by
  obtain ⟨a, c, rfl⟩ := isInts_form h
  have HC : Hid (∀ j, j < zs.length → ∃ b o, a = some ⟨b, o, none⟩ ∧ w.cell? ⟨b, o + j, none⟩ = some (.int .i64 (zs.getD j 0))) := fun j hj => isInts_at h j hj
  obtain ⟨R, hR⟩ : ∃ R, R = zs.contains x := ⟨_, rfl⟩
  rw [← hR]
  have HR : Hid (R = zs.contains x) := hR
  clear hR h
  obtain ⟨n, hn⟩ : ∃ n, n = zs.length := ⟨_, rfl⟩
  have HN : Hid (n = zs.length) := hn
  rw [← hn] at hm ⊢
  clear hn
  go_enter Tryd.func27, Tryd.ntmps27
  go_wp2_with fail
  go_loopw [5] (fun t wr => ∃ k : Nat, k ≤ n ∧ t = .int .i64 k ∧ wr = w ∧ (zs.take k).contains x = false) (fun t _ => (n - intOf t).toNat)
  case atStart => exact ⟨0, Nat.zero_le _, rfl, rfl, rfl⟩
  case round =>
    obtain ⟨k, hk, rfl, hwr, hall⟩ := hrel
    obtain rfl := hwr.symm
    have HA : Hid ((zs.take k).contains x = false) := hall
    clear hall hwr
    by_cases hlt : k < n
    · have hl : k < zs.length := by rw [← HN.out]; exact hlt
      obtain ⟨b, o, rfl, e0⟩ := HC.out k hl
      obtain ⟨y, hy⟩ : ∃ y, y = zs.getD k 0 := ⟨_, rfl⟩
      rw [← hy] at e0
      have hmem : y ∈ zs := by rw [hy]; simp [List.getD, hl]
      have htk : zs.take (k + 1) = zs.take k ++ [y] := by rw [List.take_add_one, hy]; simp [List.getD, hl]
      by_cases he : y = x
      · have hb : Hid (R = true) := by show R = true; rw [HR.out]; rw [he] at hmem; exact List.contains_iff_mem.2 hmem
        subst he
        clear hl hy hmem htk
        go_wp2_with fail
        go_ret
        exact ⟨by rw [hb.out]; rfl, rfl⟩
      · have hn2 : Hid ((zs.take (k + 1)).contains x = false) := by
          show (zs.take (k + 1)).contains x = false
          rw [htk]
          have h1 := HA.out
          simp only [List.contains_eq_mem, decide_eq_false_iff_not] at h1 ⊢
          simp only [List.mem_append, List.mem_singleton, not_or]
          exact ⟨h1, fun q => he q.symm⟩
        have hbe : (y == x) = false := beq_eq_false_iff_ne.2 he
        clear hl hy hmem htk
        go_wp2_with fail
        go_roundw
        case rel => exact ⟨k + 1, hlt, by go_num, trivial, hn2.out⟩
        case measure => simp [intOf]; omega
    · have hb : Hid (R = false) := by
        show R = false
        have := HA.out
        rw [show k = zs.length by rw [← HN.out]; omega, List.take_length] at this
        rw [HR.out, this]
      go_wp2_with fail
      go_ret
      exact ⟨by rw [hb.out]; rfl, rfl⟩

theorem all_take_snoc {α : Type} (p : α → Bool) (l : List α) (d : α) (k : Nat) (h : k < l.length) : (l.take (k + 1)).all p = ((l.take k).all p && p (l.getD k d)) := all_take_succ p l d k h

set_option maxHeartbeats 2000000 in
/-- areVars. -/
theorem refAreVars_any (P : ProgD) (zs : List Int) (v v1 v2 v3 : Value) (w : World) (hm : zs.length ≤ 1000000) (h : IsProg w v1 v2 v3 P) (hz : IsInts w v zs) :
    Calls Tryd.prog 25 #[.agg #[v1, v2, v3], v] w fun e w' => e = .returned (.bool (zs.all (varB P))) ∧ Below w.heap.size w w' := by
  obtain ⟨a, c, rfl⟩ := isInts_form hz
  have H : Hid (IsProg w v1 v2 v3 P) := h
  obtain ⟨W, hW⟩ : ∃ W, W = w.alloc (.cells #[v1, v2, v3] 26) := ⟨_, rfl⟩
  have hBW : Below w.heap.size w W := by rw [hW]; exact below1 w _
  have HC : Hid (∀ j, j < zs.length → ∃ b o, a = some ⟨b, o, none⟩ ∧ W.cell? ⟨b, o + j, none⟩ = some (.int .i64 (zs.getD j 0))) := fun j hj => by
    obtain ⟨b, o, h1, h2⟩ := isInts_at hz j hj
    exact ⟨b, o, h1, cell_keep hBW h2⟩
  have HX : Hid (Box3 W w.heap.size v1 v2 v3) := by
    show Box3 W _ _ _ _
    rw [hW]; exact box3_new w _ _ _ _
  obtain ⟨⟨a1, c1, rfl, -, -⟩, ⟨a2, c2, rfl, -, -⟩, ⟨a3, c3, rfl, -, -⟩⟩ := h
  obtain ⟨R, hR⟩ : ∃ R, R = zs.all (varB P) := ⟨_, rfl⟩
  rw [← hR]
  have HR : Hid (R = zs.all (varB P)) := hR
  obtain ⟨m1, hm1⟩ : ∃ m, m = P.vars.length := ⟨_, rfl⟩
  obtain ⟨m2, hm2⟩ : ∃ m, m = P.funs.length := ⟨_, rfl⟩
  obtain ⟨m3, hm3⟩ : ∃ m, m = P.stmts.length := ⟨_, rfl⟩
  obtain ⟨n, hn⟩ : ∃ n, n = zs.length := ⟨_, rfl⟩
  have HN : Hid (n = zs.length) := hn
  rw [← hn] at hm ⊢
  rw [← hm1, ← hm2, ← hm3] at H HX hW ⊢
  clear hR hz hn hm1 hm2 hm3
  go_enter Tryd.func25, Tryd.ntmps25
  go_wp2_with fail
  rw [← hW]
  clear hW
  go_loopw [5] (fun t wr => ∃ k : Nat, k ≤ n ∧ t = .int .i64 k ∧ Below W.heap.size W wr ∧ (zs.take k).all (varB P) = true) (fun t _ => (n - intOf t).toNat)
  case atStart => exact ⟨0, Nat.zero_le _, rfl, Below.refl _ _, rfl⟩
  case round =>
    obtain ⟨k, hk, rfl, hB, hall⟩ := hrel
    have HA : Hid ((zs.take k).all (varB P) = true) := hall
    clear hall
    by_cases hlt : k < n
    · have hl : k < zs.length := by rw [← HN.out]; exact hlt
      obtain ⟨b, o, rfl, e0⟩ := HC.out k hl
      obtain ⟨y, hy⟩ : ∃ y, y = zs.getD k 0 := ⟨_, rfl⟩
      rw [← hy] at e0
      obtain ⟨D, hD⟩ : ∃ D, D = varB P y := ⟨_, rfl⟩
      have HS : Hid ((zs.take (k + 1)).all (varB P) = D) := by
        show (zs.take (k + 1)).all (varB P) = D
        rw [all_take_snoc (varB P) zs 0 k hl, HA.out, ← hy, hD]; rfl
      have HF : Hid (D = false → R = false) := fun g => by
        rw [HR.out]; exact all_not_of_at (varB P) zs 0 k hl (by rw [← hy, ← hD]; exact g)
      obtain ⟨p0, p1, p2⟩ := HX.out.below hB
      have KI : ∀ d os, Calls Tryd.prog 26 #[.agg #[.slice a1 m1 c1, .slice a2 m2 c2, .slice a3 m3 c3], .int .i64 y] (Go.Sort.grow (redrawn wr d) os) fun e w'' => e = .returned (.bool D) ∧ ∃ p : Regrown, w'' = Go.Sort.grow (redrawn wr p.d) p.os := fun d os => by
        rw [hD]
        exact Calls.regrown_of (refIsVar_any P y _ _ _ _ (((H.out.below hBW).below hB).below (below_regrown wr d os)))
      have P0 := cell_regrown p0
      have P1 := cell_regrown p1
      have P2 := cell_regrown p2
      have E0 := cell_regrown (cell_keep hB e0)
      clear hl hy hD p0 p1 p2 e0
      go_wp2_with fail
      refine wp_region_quiet_below (by kernel_rfl) (by kernel_rfl) ?_
      repeat (quiet_step (first | exact KI _ _))
      refine wpQuiet_nil ?_
      intro _ hw'
      obtain ⟨⟨dq, osq⟩, hw''⟩ := hw'
      subst hw''
      have hBQ : Below W.heap.size W (Go.Sort.grow (redrawn wr dq) osq) := hB.trans ((below_regrown wr dq osq).mono hB.size)
      have hBF : Below w.heap.size w (Go.Sort.grow (redrawn wr dq) osq) := hBW.trans (hBQ.mono hBW.size)
      clear KI P0 P1 P2 E0
      cases D with
      | true =>
        go_wp2_with fail
        go_roundw
        case rel => exact ⟨k + 1, hlt, by go_num, hBQ, HS.out⟩
        case measure => simp [intOf]; omega
      | false =>
        have hb : Hid (R = false) := HF.out rfl
        go_wp2_with fail
        go_ret
        exact ⟨by rw [hb.out]; rfl, hBF⟩
    · have hb : Hid (R = true) := by
        show R = true
        have := HA.out
        rw [show k = zs.length by rw [← HN.out]; omega, List.take_length] at this
        rw [HR.out, this]
      have hBF : Below w.heap.size w wr := hBW.trans (hB.mono hBW.size)
      go_wp2_with fail
      go_ret
      exact ⟨by rw [hb.out]; rfl, hBF⟩

theorem bare_ref (n : Int) (w : World) : Calls Tryd.prog 11 #[.int .i64 n] w fun e w' => e = .returned (.agg #[.int .i64 n, .int .i64 (-1)]) ∧ Below w.heap.size w w' := by
  go_enter Tryd.func11, Tryd.ntmps11
  go_wp2_with fail
  refine bodyPost_ret (v := .agg #[.int .i64 n, .int .i64 (-1)]) (by simp [results, Tryd.results11, go_sem]) rfl ?_
  exact ⟨rfl, below1 _ _⟩
theorem fine_ref (w : World) : Calls Tryd.prog 29 #[] w fun e w' => e = .returned (.agg #[.int .i64 0, .int .i64 (-1)]) ∧ Below w.heap.size w w' := by
  go_enter Tryd.func29, Tryd.ntmps29
  go_wp2_with fail
  refine bodyPost_ret (v := .agg #[.int .i64 0, .int .i64 (-1)]) (by simp [results, Tryd.results29, go_sem]) rfl ?_
  exact ⟨rfl, below1 _ _⟩
end Go.Proofs.YtdbcjeccmjpbiabDoor

/-
  sameState: a State of package run and the document's are the same.
-/
import Derived.Test.YtdbcjeccmjpbiabDoorTB
import Derived.Test.YtdbcjeccmjpbiabDoorRJ
import Derived.Test.YtdbcjeccmjpbiabDoorPI
import Derived.Lib.QuietBelow
import Derived.Deep.DeepCutAuto
import Derived.Deep.RegionHeld3
namespace Go.Proofs.YtdbcjeccmjpbiabDoor
open Go.RowKit Go.Extern.Stop Go.Stop Go.Extern

set_option maxRecDepth 100000 in
set_option maxHeartbeats 8000000 in
theorem sameState_true {w : World} {B Bt sb n1 : Nat} {s : StD} {xv xt xp v1 v2 v3 : Value} (h : RSt w B Bt sb n1 s xv xt xp) (hp : IsInts w xp s.places) (h1 : IsVals w v1 s.vars) (h2 : IsVals w v2 s.things) (h3 : IsInts w v3 s.places) (hn1 : n1 ≤ 1000000) (hth : s.things.length ≤ 1000000) :
    Calls Tryd.prog 15 #[.agg #[v1, v2, v3], .pointer (some ⟨sb, 0, none⟩)] w fun e w' => e = .returned (.bool true) ∧ Below w.heap.size w w' := by
  obtain ⟨g1, e1, rfl, hr1⟩ := h1
  obtain ⟨g2, e2, rfl, hr2⟩ := h2
  obtain ⟨va, vc, rfl⟩ := owns_form h.rv
  obtain ⟨ta, tc, rfl⟩ := owns_form h.rt
  have hls := h.ls
  have hlp := h.lp
  obtain ⟨n2, hn2⟩ : ∃ m, m = s.things.length := ⟨_, rfl⟩
  rw [hls, ← hn2]
  rw [← hn2] at hth hlp
  obtain ⟨W, hW⟩ : ∃ W, W = w.alloc (.cells #[.slice (some ⟨g1, 0, none⟩) n1 e1, .slice (some ⟨g2, 0, none⟩) n2 e2, v3] 33) := ⟨_, rfl⟩
  have hBW : Below w.heap.size w W := by rw [hW]; exact below1 w _
  have X : Hid (Box3 W w.heap.size (.slice (some ⟨g1, 0, none⟩) n1 e1) (.slice (some ⟨g2, 0, none⟩) n2 e2) v3) := by
    have hb : W.heap[w.heap.size]? = some (.cells #[.slice (some ⟨g1, 0, none⟩) n1 e1, .slice (some ⟨g2, 0, none⟩) n2 e2, v3] 33) := by rw [hW]; exact heap_new w _
    refine ⟨?_, ?_, ?_⟩
    · rw [Lib.cell_of_heap hb]; rfl
    · rw [Lib.cell_of_heap hb]; rfl
    · rw [Lib.cell_of_heap hb]; rfl
  have HR : Hid (∀ wx, Below w.heap.size w wx → wx.cell? ⟨sb, 0, none⟩ = some (.slice va n1 vc) ∧ wx.cell? ⟨sb, 1, none⟩ = some (.slice ta n2 tc) ∧ wx.cell? ⟨sb, 2, none⟩ = some xp) := fun wx hb => by
    have := (h.below hb).cells
    rw [← hn2] at this
    exact this
  have KI : Hid (∀ wx, Below w.heap.size w wx → Calls Tryd.prog 18 #[v3, xp] wx fun e w' => e = .returned (.bool true) ∧ Below wx.heap.size wx w') := fun wx hb => sameInts_true s.places v3 xp wx (by omega) (h3.below hb) (hp.below hb)
  have KV : Hid (∀ wx, Below w.heap.size w wx → ∀ j, j < n1 → ∃ g K N, va = some ⟨g, 0, none⟩ ∧ wx.cell? ⟨g, j * 2, none⟩ = some (.string K) ∧ wx.cell? ⟨g, j * 2 + 1, none⟩ = some (.int .i64 N) ∧ wx.cell? ⟨g1, j * 2, none⟩ = some (.string K) ∧ wx.cell? ⟨g1, j * 2 + 1, none⟩ = some (.int .i64 N)) := fun wx hb j hj => by
    obtain ⟨g, cap, cs, e, -, -, -, -, hrow⟩ := h.vrow (by omega)
    obtain ⟨q0, q1⟩ := hrow j hj
    obtain ⟨r0, r1⟩ := hr1 j (by omega)
    exact ⟨g, _, _, (Value.slice.inj e).1, cell_keep hb q0, cell_keep hb q1, cell_keep hb r0, cell_keep hb r1⟩
  have KT : Hid (∀ wx, Below w.heap.size w wx → ∀ j, j < n2 → ∃ g K N, ta = some ⟨g, 0, none⟩ ∧ wx.cell? ⟨g, j * 2, none⟩ = some (.string K) ∧ wx.cell? ⟨g, j * 2 + 1, none⟩ = some (.int .i64 N) ∧ wx.cell? ⟨g2, j * 2, none⟩ = some (.string K) ∧ wx.cell? ⟨g2, j * 2 + 1, none⟩ = some (.int .i64 N)) := fun wx hb j hj => by
    obtain ⟨g, cap, cs, e, -, -, -, hrow⟩ := h.trow (by omega)
    obtain ⟨q0, q1⟩ := hrow j (by omega)
    obtain ⟨r0, r1⟩ := hr2 j (by omega)
    exact ⟨g, _, _, (Value.slice.inj e).1, cell_keep hb q0, cell_keep hb q1, cell_keep hb r0, cell_keep hb r1⟩
  clear h hp h3 hr1 hr2 hls hlp hn2
  have HB : Hid (Below w.heap.size w W) := hBW
  obtain ⟨p0, p1, p2⟩ := X.out
  obtain ⟨q0, q1, q2⟩ := HR.out W hBW
  have P0 := cell_regrown p0
  have P1 := cell_regrown p1
  have P2 := cell_regrown p2
  have Q0 := cell_regrown q0
  have Q1 := cell_regrown q1
  have Q2 := cell_regrown q2
  have KJ : ∀ d os, Calls Tryd.prog 18 #[v3, xp] (Go.Sort.grow (redrawn W d) os) fun e w'' => e = .returned (.bool true) ∧ ∃ p : Regrown, w'' = Go.Sort.grow (redrawn W p.d) p.os := fun d os =>
    Calls.regrown_of (KI.out _ (hBW.trans ((below_regrown W d os).mono hBW.size)))
  go_enter Tryd.func15, Tryd.ntmps15
  go_upto_region 1 with fail
  rw [← hW]
  clear hW
  refine wp_region_quiet_below (by kernel_rfl) (by kernel_rfl) ?_
  repeat (quiet_step (first | exact KJ _ _))
  refine wpQuiet_nil ?_
  intro _ hw'
  obtain ⟨⟨dq, osq⟩, hw''⟩ := hw'
  subst hw''
  obtain ⟨W2, hW2⟩ : ∃ W2, W2 = Go.Sort.grow (redrawn W dq) osq := ⟨_, rfl⟩
  have hB2 : Below W.heap.size W W2 := by rw [hW2]; exact below_regrown W dq osq
  rw [← hW2]
  clear hW2 KJ P0 P1 P2 Q0 Q1 Q2 p0 p1 p2 q0 q1 q2 hBW
  go_wp2_with fail
  go_loopw [5] (fun t wr => ∃ k : Nat, k ≤ n1 ∧ t = .int .i64 k ∧ Below W.heap.size W wr) (fun t _ => (n1 - intOf t).toNat)
  case atStart => exact ⟨0, Nat.zero_le _, rfl, hB2⟩
  case round =>
    obtain ⟨k, hk, rfl, hB⟩ := hrel
    have hBx : Below w.heap.size w wr := HB.out.trans (hB.mono HB.out.size)
    obtain ⟨p0, p1, p2⟩ := X.out.below hB
    obtain ⟨q0, q1, q2⟩ := HR.out wr hBx
    by_cases hlt : k < n1
    · obtain ⟨g, K, N, rfl, r0, r1, t0, t1⟩ := KV.out wr hBx k hlt
      clear hBx p1 p2 q1 q2
      go_wp2_with fail
      go_quiet (fail)
      go_wp2_with fail
      go_roundw
      case rel => exact ⟨k + 1, hlt, by go_num, below_drewN hB _⟩
      case measure => simp [intOf]; omega
    · obtain ⟨wf, hwf⟩ : ∃ wf, wf = wr := ⟨_, rfl⟩
      rw [← hwf] at hB hBx p0 p1 p2 q0 q1 q2 ⊢
      clear hwf
      go_wp2_with fail
      clear p0 p1 p2 q0 q1 q2
      go_loopw [6] (fun t wr => ∃ k : Nat, k ≤ n2 ∧ t = .int .i64 k ∧ Below W.heap.size W wr) (fun t _ => (n2 - intOf t).toNat)
      case atStart => exact ⟨0, Nat.zero_le _, rfl, hB⟩
      case round =>
        clear hB hBx
        obtain ⟨k, hk, rfl, hB⟩ := hrel
        have hBx : Below w.heap.size w wr := HB.out.trans (hB.mono HB.out.size)
        obtain ⟨p0, p1, p2⟩ := X.out.below hB
        obtain ⟨q0, q1, q2⟩ := HR.out wr hBx
        by_cases hlt : k < n2
        · obtain ⟨g, K, N, rfl, r0, r1, t0, t1⟩ := KT.out wr hBx k hlt
          clear hBx p0 p2 q0 q2
          go_wp2_with fail
          go_quiet (fail)
          go_wp2_with fail
          go_roundw
          case rel => exact ⟨k + 1, hlt, by go_num, below_drewN hB _⟩
          case measure => simp [intOf]; omega
        · go_wp2_with fail
          go_ret
          exact ⟨rfl, hBx⟩
end Go.Proofs.YtdbcjeccmjpbiabDoor

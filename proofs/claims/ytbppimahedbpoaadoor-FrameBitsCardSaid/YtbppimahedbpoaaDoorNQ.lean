/-
  The document's FrameError, by a contract.
-/
import Derived.Test.YtbppimahedbpoaaDoorNP
import Derived.Test.YtbppimahedbpoaaDoorND
import Derived.Deep.DeepCutAuto
namespace Go.Proofs.YtbppimahedbpoaaDoor
open Go.RowKit Go.Extern.Stop Go.Stop Go.Extern

def codeF : Option Nat → Int
  | none => 0
  | some i => (i : Int) + 1
set_option maxRecDepth 100000 in
set_option maxHeartbeats 8000000 in
theorem refFrameError_any (f : FrameD) (nv : Value) (w : World) (hi : IsInts w nv f.nums) (hl : f.nums.length ≤ 1000000) :
    Calls Tryd.prog 8 #[frameV f nv] w fun e w' => e = .returned (.int .i64 (codeF (frameE f))) ∧ Below w.heap.size w w' := by
  obtain ⟨na, nc, rfl⟩ := isInts_form hi
  obtain ⟨n, hn⟩ : ∃ n, n = f.nums.length := ⟨_, rfl⟩
  obtain ⟨kd, hkd⟩ : ∃ x, x = f.kind := ⟨_, rfl⟩
  obtain ⟨fr, hfr⟩ : ∃ x, x = f.frm := ⟨_, rfl⟩
  obtain ⟨dt, hto⟩ : ∃ x, x = f.to := ⟨_, rfl⟩
  obtain ⟨sq, hsq⟩ : ∃ x, x = f.seq := ⟨_, rfl⟩
  rw [← hn] at hi hl ⊢
  unfold frameV
  rw [← hkd, ← hfr, ← hto, ← hsq]
  obtain ⟨W, hW⟩ : ∃ W, W = w.alloc (.cells #[.int .u8 kd, .int .i64 fr, .int .i64 dt, .int .i64 sq, .slice na n nc] 24) := ⟨_, rfl⟩
  have hBW : Below w.heap.size w W := by rw [hW]; exact below1 w _
  have hX : W.heap[w.heap.size]? = some (.cells #[.int .u8 kd, .int .i64 fr, .int .i64 dt, .int .i64 sq, .slice na n nc] 24 (0, 0)) := by rw [hW]; exact heap_new w _
  have c0 : W.cell? ⟨w.heap.size, 0, none⟩ = some (.int .u8 kd) := by rw [Lib.cell_of_heap hX]; rfl
  have c1 : W.cell? ⟨w.heap.size, 1, none⟩ = some (.int .i64 fr) := by rw [Lib.cell_of_heap hX]; rfl
  have c2 : W.cell? ⟨w.heap.size, 2, none⟩ = some (.int .i64 dt) := by rw [Lib.cell_of_heap hX]; rfl
  have c3 : W.cell? ⟨w.heap.size, 3, none⟩ = some (.int .i64 sq) := by rw [Lib.cell_of_heap hX]; rfl
  have c4 : W.cell? ⟨w.heap.size, 4, none⟩ = some (.slice na n nc) := by rw [Lib.cell_of_heap hX]; rfl
  have HI : Hid (IsInts W (.slice na n nc) f.nums ∧ n = f.nums.length) := ⟨hi.below hBW, hn⟩
  have HB : Hid (Below w.heap.size w W) := hBW
  have HR : Hid (frameE f = if isKindB kd = false then some 3 else if (isPeerB fr && (isPeerB dt && isNumB sq)) = false then some 1 else if f.nums.any (fun x => !isNumB x) = true then some 1 else if fr = dt then some 2 else if 200 < n then some 7 else none) := by
    show _ = _
    unfold frameE
    rw [hn, hkd, hfr, hto, hsq]
  obtain ⟨R, hR⟩ : ∃ R, R = frameE f := ⟨_, rfl⟩
  rw [← hR] at HR ⊢
  clear hX hBW hkd hfr hto hsq hn hR hi
  go_enter Tryd.func8, Tryd.ntmps8
  go_upto_region 1 with fail
  rw [← hW]
  clear hW
  go_cut [21] (fun s wx => s = .bool (!isKindB kd) ∧ wx = W)
  case first =>
    by_cases k1 : kd = 100
    · subst k1
      go_wp2_with fail
      go_meet
      exact ⟨rfl, rfl⟩
    by_cases k2 : kd = 101
    · subst k2
      go_wp2_with fail
      go_meet
      exact ⟨rfl, rfl⟩
    by_cases k3 : kd = 116
    · subst k3
      go_wp2_with fail
      go_meet
      exact ⟨rfl, rfl⟩
    by_cases k4 : kd = 97
    · subst k4
      go_wp2_with fail
      go_meet
      exact ⟨rfl, rfl⟩
    have HK : Hid (isKindB kd = false) := by
      show _ = _
      unfold isKindB
      simp [k1, k2, k3, k4]
    go_wp2_with fail
    go_meet
    exact ⟨by rw [HK.out]; simp [k1, k2, k3, k4], rfl⟩
  case rest =>
  obtain ⟨rfl, hwc⟩ := hcut
  rw [hwc]
  clear hwc
  cases hbK : isKindB kd with
  | false =>
    have HRR : Hid (R = some 3) := by have := HR.out; rw [if_pos hbK] at this; exact this
    clear HR hbK
    go_wp2_with fail
    go_ret
    exact ⟨by rw [HRR.out]; rfl, HB.out⟩
  | true =>
  go_upto_region 3 with fail
  go_cut [49] (fun s wx => s = .bool (!(isPeerB fr && (isPeerB dt && isNumB sq))) ∧ wx = W)
  case first =>
    obtain ⟨Z, hZ⟩ : ∃ Z, Z = (isPeerB fr && (isPeerB dt && isNumB sq)) := ⟨_, rfl⟩
    have HZ : Hid (Z = (isPeerB fr && (isPeerB dt && isNumB sq))) := hZ
    clear hZ HR
    by_cases f1 : fr < 0
    · have HF : Hid (Z = false) := by
        show _ = _
        rw [HZ.out]; unfold isPeerB; rw [decide_eq_false (show ¬ 0 ≤ fr by omega)]; rfl
      go_wp2_with fail
      go_meet
      exact ⟨by rw [← HZ.out, HF.out]; first | rfl | (simp; omega), rfl⟩
    by_cases f2 : 6 ≤ fr
    · have HF : Hid (Z = false) := by
        show _ = _
        rw [HZ.out]; unfold isPeerB; rw [decide_eq_false (show ¬ fr < 6 by omega)]; simp
      go_wp2_with fail
      go_meet
      exact ⟨by rw [← HZ.out, HF.out]; first | rfl | (simp; omega), rfl⟩
    by_cases f3 : dt < 0
    · have HF : Hid (Z = false) := by
        show _ = _
        rw [HZ.out]; unfold isPeerB; rw [decide_eq_false (show ¬ 0 ≤ dt by omega)]; simp
      go_wp2_with fail
      go_meet
      exact ⟨by rw [← HZ.out, HF.out]; first | rfl | (simp; omega), rfl⟩
    by_cases f4 : 6 ≤ dt
    · have HF : Hid (Z = false) := by
        show _ = _
        rw [HZ.out]; unfold isPeerB; rw [decide_eq_false (show ¬ dt < 6 by omega)]; simp
      go_wp2_with fail
      go_meet
      exact ⟨by rw [← HZ.out, HF.out]; first | rfl | (simp; omega), rfl⟩
    by_cases f5 : sq < 0
    · have HF : Hid (Z = false) := by
        show _ = _
        rw [HZ.out]; unfold isNumB; rw [decide_eq_false (show ¬ 0 ≤ sq by omega)]; simp
      go_wp2_with fail
      go_meet
      exact ⟨by rw [← HZ.out, HF.out]; first | rfl | (simp; omega), rfl⟩
    by_cases f6 : 2147483648 < sq
    · have HF : Hid (Z = false) := by
        show _ = _
        rw [HZ.out]; unfold isNumB; rw [decide_eq_false (show ¬ sq ≤ 2147483648 by omega)]; simp
      go_wp2_with fail
      go_meet
      exact ⟨by rw [← HZ.out, HF.out]; first | rfl | (simp; omega), rfl⟩
    have HF : Hid (Z = true) := by
      show _ = _
      rw [HZ.out]; unfold isPeerB isNumB
      rw [decide_eq_true (show 0 ≤ fr by omega), decide_eq_true (show fr < 6 by omega), decide_eq_true (show 0 ≤ dt by omega), decide_eq_true (show dt < 6 by omega), decide_eq_true (show 0 ≤ sq by omega), decide_eq_true (show sq ≤ 2147483648 by omega)]
      rfl
    go_wp2_with fail
    go_meet
    exact ⟨by rw [← HZ.out, HF.out]; first | rfl | (simp; omega), rfl⟩
  case rest =>
  obtain ⟨rfl, hwc⟩ := hcut
  rw [hwc]
  clear hwc
  cases hbP : (isPeerB fr && (isPeerB dt && isNumB sq)) with
  | false =>
    have HRR : Hid (R = some 1) := by have := HR.out; rw [hbK, if_neg (by decide), if_pos hbP] at this; exact this
    clear HR hbK hbP
    go_wp2_with fail
    go_ret
    exact ⟨by rw [HRR.out]; rfl, HB.out⟩
  | true =>
  have HR2 : Hid (R = if f.nums.any (fun x => !isNumB x) = true then some 1 else if fr = dt then some 2 else if 200 < n then some 7 else none) := by
    have := HR.out
    rw [hbK, if_neg (by decide), hbP, if_neg (by decide)] at this
    exact this
  clear HR hbK hbP
  go_wp2_with fail
  go_loopw [3] (fun t3 wr => ∃ k : Nat, k ≤ n ∧ t3 = .int .i64 (k : Int) ∧ (f.nums.take k).any (fun x => !isNumB x) = false ∧ wr = W) (fun t3 _ => (n - intOf t3).toNat)
  case atStart => exact ⟨0, Nat.zero_le _, rfl, rfl, rfl⟩
  case round =>
    obtain ⟨k, hk, rfl, hall, hwr⟩ := hrel
    rw [hwr]
    clear hwr
    have HA : Hid ((f.nums.take k).any (fun x => !isNumB x) = false) := hall
    clear hall
    by_cases hlt : k < n
    · have hki : (k : Int) < n := by omega
      have hkf : k < f.nums.length := by rw [← HI.out.2]; exact hlt
      obtain ⟨b, o, rfl, x1⟩ := isInts_at HI.out.1 k hkf
      obtain ⟨z, hz⟩ : ∃ z, z = f.nums.getD k 0 := ⟨_, rfl⟩
      rw [← hz] at x1
      have HZ : Hid (z = f.nums.getD k 0 ∧ k < f.nums.length) := ⟨hz, hkf⟩
      clear hz hkf
      by_cases z1 : z < 0
      · have HF : Hid (R = some 1) := by
          have := HR2.out
          rw [if_pos (any_at _ f.nums k HZ.out.2 (by rw [← HZ.out.1]; unfold isNumB; rw [decide_eq_false (show ¬ 0 ≤ z by omega)]; rfl))] at this
          exact this
        clear HR2
        go_wp2_with fail
        go_ret
        exact ⟨by rw [HF.out]; rfl, HB.out⟩
      by_cases z2 : 2147483648 < z
      · have HF : Hid (R = some 1) := by
          have := HR2.out
          rw [if_pos (any_at _ f.nums k HZ.out.2 (by rw [← HZ.out.1]; unfold isNumB; rw [decide_eq_false (show ¬ z ≤ 2147483648 by omega)]; simp))] at this
          exact this
        clear HR2
        go_wp2_with fail
        go_ret
        exact ⟨by rw [HF.out]; rfl, HB.out⟩
      have HNX : Hid ((f.nums.take (k + 1)).any (fun x => !isNumB x) = false) := any_take_succ _ f.nums k HZ.out.2 HA.out (by rw [← HZ.out.1]; unfold isNumB; rw [decide_eq_true (show 0 ≤ z by omega), decide_eq_true (show z ≤ 2147483648 by omega)]; rfl)
      go_wp2_with fail
      go_roundw
      case rel => exact ⟨k + 1, hlt, by go_num, HNX.out, trivial⟩
      case measure => simp [intOf]; omega
    · have HR3 : Hid (R = if fr = dt then some 2 else if 200 < n then some 7 else none) := by
        have h1 := HR2.out
        have h2 := HA.out
        rw [show k = f.nums.length by rw [← HI.out.2]; omega, List.take_length] at h2
        rw [h2, if_neg (by decide)] at h1
        exact h1
      clear HR2
      by_cases e1 : fr = dt
      · have HF : Hid (R = some 2) := by have := HR3.out; rw [if_pos e1] at this; exact this
        clear HR3
        go_wp2_with fail
        go_ret
        exact ⟨by rw [HF.out]; rfl, HB.out⟩
      by_cases e2 : (200 : Int) < n
      · have HF : Hid (R = some 7) := by have := HR3.out; rw [if_neg e1, if_pos (by omega)] at this; exact this
        clear HR3
        go_wp2_with fail
        go_ret
        exact ⟨by rw [HF.out]; rfl, HB.out⟩
      have HF : Hid (R = none) := by have := HR3.out; rw [if_neg e1, if_neg (by omega)] at this; exact this
      clear HR3
      go_wp2_with fail
      go_ret
      exact ⟨by rw [HF.out]; rfl, HB.out⟩
end Go.Proofs.YtbppimahedbpoaaDoor

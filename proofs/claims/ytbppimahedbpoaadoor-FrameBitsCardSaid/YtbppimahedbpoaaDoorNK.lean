/-
  A frame, as the package has it; a frame is told.
-/
import Derived.Test.YtbppimahedbpoaaDoorNJ
import Derived.Test.YtbppimahedbpoaaDoorFK3
namespace Go.Proofs.YtbppimahedbpoaaDoor
open Go.RowKit Go.Extern.Stop Go.Stop Go.Extern

def oneFrame : FrameD := ⟨100, 1, 0, 2, [3]⟩
theorem one_ok : frameE oneFrame = none := by decide
theorem one_text : S (textD oneFrame) = ⟨#[100, 1, 0, 0, 0, 0, 2, 1, 0, 0, 0, 3, 217, 151, 174, 120]⟩ := by kernel_rfl
theorem one_sum : crcD (⟨#[49, 50, 51, 52, 53, 54, 55, 56, 57]⟩ : ByteArray).data.toList = 3421780262 := by kernel_rfl
set_option maxRecDepth 100000 in
set_option maxHeartbeats 4000000 in
theorem framed_any (a : Nat → Addr) (w : World) (hE : Errs6 w a) : Calls Tryd.prog 6 #[] w fun e w' => e = .returned (.bool true) ∧ Below w.heap.size w w' := by
  obtain ⟨W, hW⟩ : ∃ W, W = w.alloc (.cells #[.int .i64 3] 3) := ⟨_, rfl⟩
  have hBW : Below w.heap.size w W := by rw [hW]; exact below1 w _
  have hi : IsInts W (.slice (some ⟨w.heap.size, 0, none⟩) 1 1) [3] := isInts_of_cells rfl fun j hj => by
    have : j = 0 := by simpa using hj
    subst this
    rw [hW]
    simp
  have KE : Hid (Calls Tryd.prog 9 #[.agg #[.int .u8 100, .int .i64 1, .int .i64 0, .int .i64 2, .slice (some ⟨w.heap.size, 0, none⟩) 1 1]] W fun e w' => e = .returned (.tuple #[.string ⟨#[100, 1, 0, 0, 0, 0, 2, 1, 0, 0, 0, 3, 217, 151, 174, 120]⟩, .nilIface]) ∧ Below w.heap.size w w') := by
    refine (encode_any a oneFrame _ W (hE.below hBW) hi (by decide)).mono ?_
    rintro e w' ⟨t, ev, rfl, hc, hb⟩
    rcases hc with ⟨-, rfl, rfl⟩ | ⟨i, q, -⟩
    · exact ⟨by rw [one_text], hBW.trans (hb.mono hBW.size)⟩
    · rw [one_ok] at q; cases q
  have KS : Hid (∀ wx, Calls Tryd.prog 16 #[.string ⟨#[49, 50, 51, 52, 53, 54, 55, 56, 57]⟩] wx fun e w' => e = .returned (.int .u32 3421780262) ∧ Below wx.heap.size wx w') := fun wx => by
    have := sum_any ⟨#[49, 50, 51, 52, 53, 54, 55, 56, 57]⟩ wx (by decide)
    rw [one_sum] at this
    exact this
  clear hi hBW hE
  go_enter Tryd.func6, Tryd.ntmps6
  have hx : ((⟨#[100, 1, 0, 0, 0, 0, 2, 1, 0, 0, 0, 3, 217, 151, 174, 120]⟩ : ByteArray).extract 0 12).toList = [100, 1, 0, 0, 0, 0, 2, 1, 0, 0, 0, 3] := by kernel_rfl
  go_upto_region 2 with (go_at_call 9; rw [← hW]; refine KE.out.mono ?_; rintro e w1 ⟨rfl, hb1⟩; clear hW)
  have HB1 : Hid (Below w.heap.size w w1) := hb1
  clear hb1 KE
  go_wp2_with (go_at_call 16; refine (KS.out _).mono ?_; rintro e w2 ⟨rfl, hb2⟩)
  go_ret
  exact ⟨rfl, HB1.out.trans (hb2.mono HB1.out.size)⟩
theorem keepZ {w : World} {N i : Nat} {v x0 x1 x2 x3 x4 : Value} (h : w.cell? ⟨N, i, none⟩ = some v) : (set5F w (N + 1) x0 x1 x2 x3 x4).cell? ⟨N, i, none⟩ = some v :=
  have hne : N ≠ N + 1 := by omega
  other_cell (other_cell (other_cell (other_cell (other_cell h hne) hne) hne) hne) hne
theorem keepZ5 {w : World} {N : Nat} {v0 v1 v2 v3 v4 x0 x1 x2 x3 x4 : Value} (h : w.cell? ⟨N, 0, none⟩ = some v0 ∧ w.cell? ⟨N, 1, none⟩ = some v1 ∧ w.cell? ⟨N, 2, none⟩ = some v2 ∧ w.cell? ⟨N, 3, none⟩ = some v3 ∧ w.cell? ⟨N, 4, none⟩ = some v4) :
    (set5F w (N + 1) x0 x1 x2 x3 x4).cell? ⟨N, 0, none⟩ = some v0 ∧ (set5F w (N + 1) x0 x1 x2 x3 x4).cell? ⟨N, 1, none⟩ = some v1 ∧ (set5F w (N + 1) x0 x1 x2 x3 x4).cell? ⟨N, 2, none⟩ = some v2 ∧ (set5F w (N + 1) x0 x1 x2 x3 x4).cell? ⟨N, 3, none⟩ = some v3 ∧ (set5F w (N + 1) x0 x1 x2 x3 x4).cell? ⟨N, 4, none⟩ = some v4 :=
  ⟨keepZ h.1, keepZ h.2.1, keepZ h.2.2.1, keepZ h.2.2.2.1, keepZ h.2.2.2.2⟩
/-- A frame of the document's in memory: its numbers in a row of their own, too. -/
abbrev TRf : TypeId := 24
set_option maxRecDepth 100000 in
set_option maxHeartbeats 8000000 in
theorem asFrame_any (f : FrameD) (nv : Value) (w : World) (hi : IsInts w nv f.nums) (hl : f.nums.length ≤ 1000000) :
    Calls Tryd.prog 7 #[frameV f nv] w fun e w' => ∃ na nc, e = .returned (frameV f (.slice na f.nums.length nc)) ∧ IsInts w' (.slice na f.nums.length nc) f.nums ∧ Below w.heap.size w w' := by
  obtain ⟨va, vc, rfl⟩ := isInts_form hi
  obtain ⟨n, hn⟩ : ∃ n, n = f.nums.length := ⟨_, rfl⟩
  obtain ⟨kd, hkd⟩ : ∃ x, x = f.kind := ⟨_, rfl⟩
  obtain ⟨fr, hfr⟩ : ∃ x, x = f.frm := ⟨_, rfl⟩
  obtain ⟨to, hto⟩ : ∃ x, x = f.to := ⟨_, rfl⟩
  obtain ⟨sq, hsq⟩ : ∃ x, x = f.seq := ⟨_, rfl⟩
  rw [← hn] at hi hl ⊢
  unfold frameV
  rw [← hkd, ← hfr, ← hto, ← hsq]
  obtain ⟨N, hN⟩ : ∃ N, N = w.heap.size := ⟨_, rfl⟩
  obtain ⟨W, hW⟩ : ∃ W, W = (w.alloc (.cells #[.int .u8 kd, .int .i64 fr, .int .i64 to, .int .i64 sq, .slice va n vc] TRf)).alloc zFr := ⟨_, rfl⟩
  have hBW : Below w.heap.size w W := by rw [hW]; exact (below1 w _).alloc (by simp) _
  have hX : W.heap[N]? = some (.cells #[.int .u8 kd, .int .i64 fr, .int .i64 to, .int .i64 sq, .slice va n vc] TRf (0, 0)) := by rw [hW, hN]; exact block_keep (below1 _ _) (heap_new w _)
  have hY : W.heap[N + 1]? = some zFr := by
    rw [hW, hN]
    have := heap_new (w.alloc (.cells #[.int .u8 kd, .int .i64 fr, .int .i64 to, .int .i64 sq, .slice va n vc] TRf)) zFr
    rw [World.size_alloc] at this
    exact this
  have HK : Hid (∀ wx, Below W.heap.size W wx → wx.cell? ⟨N, 0, none⟩ = some (.int .u8 kd) ∧ wx.cell? ⟨N, 1, none⟩ = some (.int .i64 fr) ∧ wx.cell? ⟨N, 2, none⟩ = some (.int .i64 to) ∧ wx.cell? ⟨N, 3, none⟩ = some (.int .i64 sq) ∧ wx.cell? ⟨N, 4, none⟩ = some (.slice va n vc)) := fun wx hb => by
    have h := block_keep hb hX
    refine ⟨?_, ?_, ?_, ?_, ?_⟩ <;> rw [Lib.cell_of_heap h] <;> rfl
  have KO : Hid (∀ wx, Below W.heap.size W wx → Calls Tryd.prog 19 #[.slice va n vc] wx fun e w' => ∃ pa pc, e = .returned (.slice pa n pc) ∧ (∃ B, w'.ownsRow B TInt 1 (.slice pa n pc) n (f.nums.map intV)) ∧ Below W.heap.size W w') := fun wx hb => by
    refine (ownInts_row f.nums _ wx (by omega) ((hi.below hBW).below hb)).mono ?_
    rintro e w' ⟨pa, pc, rfl, h1, h2⟩
    rw [← hn] at h1 ⊢
    exact ⟨pa, pc, rfl, ⟨_, h1⟩, hb.trans (h2.mono hb.size)⟩
  have HW : Hid (Below w.heap.size w W ∧ W.heap[N + 1]? = some zFr ∧ n = f.nums.length ∧ N = w.heap.size) := ⟨hBW, hY, hn, hN⟩
  clear hi hBW hX hY hkd hfr hto hsq hn
  go_enter Tryd.func7, Tryd.ntmps7
  go_upto_region 1 with fail
  rw [← hW, ← hN]
  clear hW hN
  go_region_held3 (fun wx => wx.cell? ⟨N, 0, none⟩ = some (.int .u8 kd) ∧ wx.cell? ⟨N, 1, none⟩ = some (.int .i64 fr) ∧ wx.cell? ⟨N, 2, none⟩ = some (.int .i64 to) ∧ wx.cell? ⟨N, 3, none⟩ = some (.int .i64 sq) ∧ wx.cell? ⟨N, 4, none⟩ = some (.slice va n vc))
    ((first | (refine HK.out _ ?_; (repeat (with_reducible first | assumption | exact Below.refl _ _ | refine Below.drew ?_)); done) | (refine keepZ5 (HK.out _ ?_); (repeat (with_reducible first | assumption | exact Below.refl _ _ | refine Below.drew ?_)); done)))
    ((go_at_call 19; refine (KO.out _ ?_).mono ?_; (repeat (with_reducible first | assumption | exact Below.refl _ _ | refine Below.drew ?_)); rintro e w7 ⟨pa, pc, rfl, hrow, hb7⟩; obtain ⟨r0, r1, r2, r3, r4, f0, f1, f2, f3, f4⟩ := resF (block_keep hb7 HW.out.2.1)))
  have hres := block_keep hb7 HW.out.2.1
  obtain ⟨wz, hwz⟩ : ∃ z, z = set5F w7 (N + 1) (.int .u8 kd) (.int .i64 fr) (.int .i64 to) (.int .i64 sq) (.slice pa n pc) := ⟨_, rfl⟩
  have h9 := set5F_blk hres (.int .u8 kd) (.int .i64 fr) (.int .i64 to) (.int .i64 sq) (.slice pa n pc)
  rw [← hwz] at h9
  obtain ⟨z0, z1, z2, z3, z4, -, -, -, -, -⟩ := resF h9
  have hwz2 := hwz
  unfold set5F at hwz2
  have HZ : Hid _ := hwz2
  have hb0 := HW.out.1.trans (hb7.mono HW.out.1.size)
  have HQ : Hid (IsInts wz (.slice pa n pc) f.nums ∧ Below w.heap.size w wz) := ⟨by
    obtain ⟨B, hrow⟩ := hrow
    rw [hwz]
    exact isInts_set5F hres _ _ _ _ _ ⟨B, by rw [← HW.out.2.2.1]; exact hrow⟩, by
    rw [hwz]
    exact hb0.trans ((set5F_keep w7 (N + 1) (.int .u8 kd) (.int .i64 fr) (.int .i64 to) (.int .i64 sq) (.slice pa n pc) (· = N + 1) rfl).below (fun k hk => by rw [hk, HW.out.2.2.2]; exact Nat.le_succ _) hb0.size)⟩
  clear hres h9 hwz hwz2 hb0 hrow hb7 r0 r1 r2 r3 r4 f0 f1 f2 f3 f4
  rw [← HZ.out]
  go_wp2_with fail
  refine bodyPost_ret (v := .agg #[.int .u8 kd, .int .i64 fr, .int .i64 to, .int .i64 sq, .slice pa n pc]) (by simp [results, Tryd.results7, go_sem, z0, z1, z2, z3, z4]) rfl ?_
  exact ⟨pa, pc, rfl, HQ.out⟩
end Go.Proofs.YtbppimahedbpoaaDoor

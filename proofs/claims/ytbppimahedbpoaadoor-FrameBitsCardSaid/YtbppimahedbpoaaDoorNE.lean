/-
  Package frame: Check, by a contract.
-/
import Derived.Test.YtbppimahedbpoaaDoorND
import Derived.Deep.RegionHeld3
namespace Go.Proofs.YtbppimahedbpoaaDoor
open Go.RowKit Go.Extern.Stop Go.Stop Go.Extern

set_option maxRecDepth 100000 in
set_option maxHeartbeats 16000000 in
theorem check_any (a : Nat → Addr) (f : FrameD) (nv : Value) (w : World) (hE : Errs6 w a) (hi : IsInts w nv f.nums) (hl : f.nums.length ≤ 1000000) :
    Calls Tryd.prog 11 #[frameV f nv] w fun e w' => e = .returned (errV a (frameE f)) ∧ Below w.heap.size w w' := by
  obtain ⟨na, nc, rfl⟩ := isInts_form hi
  obtain ⟨n, hn⟩ : ∃ n, n = f.nums.length := ⟨_, rfl⟩
  obtain ⟨kd, hkd⟩ : ∃ x, x = f.kind := ⟨_, rfl⟩
  obtain ⟨fr, hfr⟩ : ∃ x, x = f.frm := ⟨_, rfl⟩
  obtain ⟨to, hto⟩ : ∃ x, x = f.to := ⟨_, rfl⟩
  obtain ⟨sq, hsq⟩ : ∃ x, x = f.seq := ⟨_, rfl⟩
  rw [← hn] at hi hl ⊢
  unfold frameV
  rw [← hkd, ← hfr, ← hto, ← hsq]
  obtain ⟨W, hW⟩ : ∃ W, W = w.alloc (.cells #[.int .u8 kd, .int .i64 fr, .int .i64 to, .int .i64 sq, .slice na n nc] TFr) := ⟨_, rfl⟩
  have hBW : Below w.heap.size w W := by rw [hW]; exact below1 w _
  have hX : W.heap[w.heap.size]? = some (.cells #[.int .u8 kd, .int .i64 fr, .int .i64 to, .int .i64 sq, .slice na n nc] TFr (0, 0)) := by rw [hW]; exact heap_new w _
  have HX : Hid (∀ wx, Below W.heap.size W wx → wx.cell? ⟨w.heap.size, 0, none⟩ = some (.int .u8 kd) ∧ wx.cell? ⟨w.heap.size, 1, none⟩ = some (.int .i64 fr) ∧ wx.cell? ⟨w.heap.size, 2, none⟩ = some (.int .i64 to) ∧ wx.cell? ⟨w.heap.size, 3, none⟩ = some (.int .i64 sq) ∧ wx.cell? ⟨w.heap.size, 4, none⟩ = some (.slice na n nc)) := fun wx hb => by
    have h := block_keep hb hX
    refine ⟨?_, ?_, ?_, ?_, ?_⟩ <;> rw [Lib.cell_of_heap h] <;> rfl
  have HEW : Hid (∀ wx, Below W.heap.size W wx → Errs6 wx a) := fun wx hb => (hE.below hBW).below hb
  have HB : Hid (Below w.heap.size w W) := hBW
  obtain ⟨D, hD⟩ : ∃ D, D = f.nums.any (fun x => !isNumB x) := ⟨_, rfl⟩
  have KC : Hid (∀ wx, Below W.heap.size W wx → Calls Tryd.prog 26 #[.slice na n nc, .func (Fn.func 27) #[] #[]] wx fun e w' => e = .returned (.bool D) ∧ Below wx.heap.size wx w') := fun wx hb => by
    rw [hD]
    exact containsFunc_any (fun x => !isNumB x) f.nums _ wx (by omega) ((hi.below hBW).below hb) fun wr x _ => checkNum_any x wr
  have KK : Hid (∀ wx, Calls Tryd.prog 23 #[.int .u8 kd] wx fun e w' => e = .returned (.bool (isKindB kd)) ∧ w' = wx) := fun wx => isKind_any kd wx
  have KA : Hid (∀ wx, Calls Tryd.prog 24 #[.int .i64 fr] wx fun e w' => e = .returned (.bool (isPeerB fr)) ∧ w' = wx) := fun wx => isPeer_any fr wx
  have KB : Hid (∀ wx, Calls Tryd.prog 24 #[.int .i64 to] wx fun e w' => e = .returned (.bool (isPeerB to)) ∧ w' = wx) := fun wx => isPeer_any to wx
  have KN : Hid (∀ wx, Calls Tryd.prog 25 #[.int .i64 sq] wx fun e w' => e = .returned (.bool (isNumB sq)) ∧ w' = wx) := fun wx => isNumber_any sq wx
  obtain ⟨bK, hK⟩ : ∃ b, b = isKindB kd := ⟨_, rfl⟩
  obtain ⟨bA, hA⟩ : ∃ b, b = isPeerB fr := ⟨_, rfl⟩
  obtain ⟨bB, hB⟩ : ∃ b, b = isPeerB to := ⟨_, rfl⟩
  obtain ⟨bN, hN⟩ : ∃ b, b = isNumB sq := ⟨_, rfl⟩
  rw [← hK] at KK
  rw [← hA] at KA
  rw [← hB] at KB
  rw [← hN] at KN
  have HR : Hid (frameE f = if bK = false then some 3 else if (bA && (bB && bN)) = false then some 1 else if D = true then some 1 else if fr = to then some 2 else if 200 < n then some 7 else none) := by
    show _ = _
    unfold frameE
    rw [hK, hA, hB, hN, hD, hn, hkd, hfr, hto, hsq]
  obtain ⟨R, hR⟩ : ∃ R, R = frameE f := ⟨_, rfl⟩
  rw [← hR] at HR ⊢
  clear hX hBW hE hK hA hB hN hD hkd hfr hto hsq hn hR hi
  obtain ⟨c0, c1, c2, c3, c4⟩ := HX.out W (Below.refl _ _)
  have e0 := HEW.out W (Below.refl _ _)
  have g1 := e0.c1
  have g2 := e0.c2
  have g3 := e0.c3
  have g7 := e0.c7
  clear e0
  cases bK with
  | false =>
    have hr : R = some 3 := by have := HR.out; simpa using this
    subst hr
    clear HR
    go_enter Tryd.func11, Tryd.ntmps11
    go_upto_region 1 with fail
    rw [← hW]
    clear hW
    go_wp2_with (first
        | (go_at_call 23; refine (KK.out _).mono ?_; rintro e w1 ⟨rfl, hw⟩; obtain rfl := hw.symm)
        | (go_at_call 24; refine (KA.out _).mono ?_; rintro e w1 ⟨rfl, hw⟩; obtain rfl := hw.symm)
        | (go_at_call 24; refine (KB.out _).mono ?_; rintro e w1 ⟨rfl, hw⟩; obtain rfl := hw.symm)
        | (go_at_call 25; refine (KN.out _).mono ?_; rintro e w1 ⟨rfl, hw⟩; obtain rfl := hw.symm))
    go_ret
    exact ⟨rfl, HB.out⟩
  | true =>
  cases bA with
  | false =>
    have hr : R = some 1 := by have := HR.out; simpa using this
    subst hr
    clear HR
    go_enter Tryd.func11, Tryd.ntmps11
    go_upto_region 1 with fail
    rw [← hW]
    clear hW
    go_wp2_with (first
        | (go_at_call 23; refine (KK.out _).mono ?_; rintro e w1 ⟨rfl, hw⟩; obtain rfl := hw.symm)
        | (go_at_call 24; refine (KA.out _).mono ?_; rintro e w1 ⟨rfl, hw⟩; obtain rfl := hw.symm)
        | (go_at_call 24; refine (KB.out _).mono ?_; rintro e w1 ⟨rfl, hw⟩; obtain rfl := hw.symm)
        | (go_at_call 25; refine (KN.out _).mono ?_; rintro e w1 ⟨rfl, hw⟩; obtain rfl := hw.symm))
    go_ret
    exact ⟨rfl, HB.out⟩
  | true =>
  cases bB with
  | false =>
    have hr : R = some 1 := by have := HR.out; simpa using this
    subst hr
    clear HR
    go_enter Tryd.func11, Tryd.ntmps11
    go_upto_region 1 with fail
    rw [← hW]
    clear hW
    go_wp2_with (first
        | (go_at_call 23; refine (KK.out _).mono ?_; rintro e w1 ⟨rfl, hw⟩; obtain rfl := hw.symm)
        | (go_at_call 24; refine (KA.out _).mono ?_; rintro e w1 ⟨rfl, hw⟩; obtain rfl := hw.symm)
        | (go_at_call 24; refine (KB.out _).mono ?_; rintro e w1 ⟨rfl, hw⟩; obtain rfl := hw.symm)
        | (go_at_call 25; refine (KN.out _).mono ?_; rintro e w1 ⟨rfl, hw⟩; obtain rfl := hw.symm))
    go_ret
    exact ⟨rfl, HB.out⟩
  | true =>
  cases bN with
  | false =>
    have hr : R = some 1 := by have := HR.out; simpa using this
    subst hr
    clear HR
    go_enter Tryd.func11, Tryd.ntmps11
    go_upto_region 1 with fail
    rw [← hW]
    clear hW
    go_wp2_with (first
        | (go_at_call 23; refine (KK.out _).mono ?_; rintro e w1 ⟨rfl, hw⟩; obtain rfl := hw.symm)
        | (go_at_call 24; refine (KA.out _).mono ?_; rintro e w1 ⟨rfl, hw⟩; obtain rfl := hw.symm)
        | (go_at_call 24; refine (KB.out _).mono ?_; rintro e w1 ⟨rfl, hw⟩; obtain rfl := hw.symm)
        | (go_at_call 25; refine (KN.out _).mono ?_; rintro e w1 ⟨rfl, hw⟩; obtain rfl := hw.symm))
    go_ret
    exact ⟨rfl, HB.out⟩
  | true =>
  cases D with
  | true =>
    have hr : R = some 1 := by have := HR.out; simpa using this
    subst hr
    clear HR
    go_enter Tryd.func11, Tryd.ntmps11
    go_upto_region 1 with fail
    rw [← hW]
    clear hW
    go_upto_region 5 with (first
        | (go_at_call 23; refine (KK.out _).mono ?_; rintro e w1 ⟨rfl, hw⟩; obtain rfl := hw.symm)
        | (go_at_call 24; refine (KA.out _).mono ?_; rintro e w1 ⟨rfl, hw⟩; obtain rfl := hw.symm)
        | (go_at_call 24; refine (KB.out _).mono ?_; rintro e w1 ⟨rfl, hw⟩; obtain rfl := hw.symm)
        | (go_at_call 25; refine (KN.out _).mono ?_; rintro e w1 ⟨rfl, hw⟩; obtain rfl := hw.symm))
    go_wp2_with fail
    refine (KC.out _ (Below.refl _ _)).mono ?_
    rintro e w2 ⟨rfl, hb2⟩
    have HB2 : Hid (Below w.heap.size w w2) := HB.out.trans (hb2.mono HB.out.size)
    clear c0 c1 c2 c3 c4 g1 g2 g3 g7
    obtain ⟨c0, c1, c2, c3, c4⟩ := HX.out w2 hb2
    have e0 := HEW.out w2 hb2
    have g1 := e0.c1
    have g2 := e0.c2
    have g7 := e0.c7
    clear e0 hb2 KC HX
    go_wp2_with fail
    go_ret
    exact ⟨rfl, HB2.out⟩
  | false =>
  by_cases hft : fr = to
  · subst hft
    have hr : R = some 2 := by have := HR.out; simpa using this
    subst hr
    clear HR
    go_enter Tryd.func11, Tryd.ntmps11
    go_upto_region 1 with fail
    rw [← hW]
    clear hW
    go_upto_region 5 with (first
        | (go_at_call 23; refine (KK.out _).mono ?_; rintro e w1 ⟨rfl, hw⟩; obtain rfl := hw.symm)
        | (go_at_call 24; refine (KA.out _).mono ?_; rintro e w1 ⟨rfl, hw⟩; obtain rfl := hw.symm)
        | (go_at_call 24; refine (KB.out _).mono ?_; rintro e w1 ⟨rfl, hw⟩; obtain rfl := hw.symm)
        | (go_at_call 25; refine (KN.out _).mono ?_; rintro e w1 ⟨rfl, hw⟩; obtain rfl := hw.symm))
    go_wp2_with fail
    refine (KC.out _ (Below.refl _ _)).mono ?_
    rintro e w2 ⟨rfl, hb2⟩
    have HB2 : Hid (Below w.heap.size w w2) := HB.out.trans (hb2.mono HB.out.size)
    clear c0 c1 c2 c3 c4 g1 g2 g3 g7
    obtain ⟨c0, c1, c2, c3, c4⟩ := HX.out w2 hb2
    have e0 := HEW.out w2 hb2
    have g1 := e0.c1
    have g2 := e0.c2
    have g7 := e0.c7
    clear e0 hb2 KC HX
    go_wp2_with fail
    go_ret
    exact ⟨rfl, HB2.out⟩
  by_cases hln : 200 < n
  · have hli : (200 : Int) < (n : Int) := by omega
    have hr : R = some 7 := by have := HR.out; simpa [hft, hln] using this
    subst hr
    clear HR
    go_enter Tryd.func11, Tryd.ntmps11
    go_upto_region 1 with fail
    rw [← hW]
    clear hW
    go_upto_region 5 with (first
        | (go_at_call 23; refine (KK.out _).mono ?_; rintro e w1 ⟨rfl, hw⟩; obtain rfl := hw.symm)
        | (go_at_call 24; refine (KA.out _).mono ?_; rintro e w1 ⟨rfl, hw⟩; obtain rfl := hw.symm)
        | (go_at_call 24; refine (KB.out _).mono ?_; rintro e w1 ⟨rfl, hw⟩; obtain rfl := hw.symm)
        | (go_at_call 25; refine (KN.out _).mono ?_; rintro e w1 ⟨rfl, hw⟩; obtain rfl := hw.symm))
    go_wp2_with fail
    refine (KC.out _ (Below.refl _ _)).mono ?_
    rintro e w2 ⟨rfl, hb2⟩
    have HB2 : Hid (Below w.heap.size w w2) := HB.out.trans (hb2.mono HB.out.size)
    clear c0 c1 c2 c3 c4 g1 g2 g3 g7
    obtain ⟨c0, c1, c2, c3, c4⟩ := HX.out w2 hb2
    have e0 := HEW.out w2 hb2
    have g1 := e0.c1
    have g2 := e0.c2
    have g7 := e0.c7
    clear e0 hb2 KC HX
    go_wp2_with fail
    go_ret
    exact ⟨rfl, HB2.out⟩
  have hr : R = none := by have := HR.out; simpa [hft, hln] using this
  subst hr
  clear HR
  go_enter Tryd.func11, Tryd.ntmps11
  go_upto_region 1 with fail
  rw [← hW]
  clear hW
  go_upto_region 5 with (first
      | (go_at_call 23; refine (KK.out _).mono ?_; rintro e w1 ⟨rfl, hw⟩; obtain rfl := hw.symm)
      | (go_at_call 24; refine (KA.out _).mono ?_; rintro e w1 ⟨rfl, hw⟩; obtain rfl := hw.symm)
      | (go_at_call 24; refine (KB.out _).mono ?_; rintro e w1 ⟨rfl, hw⟩; obtain rfl := hw.symm)
      | (go_at_call 25; refine (KN.out _).mono ?_; rintro e w1 ⟨rfl, hw⟩; obtain rfl := hw.symm))
  go_wp2_with fail
  refine (KC.out _ (Below.refl _ _)).mono ?_
  rintro e w2 ⟨rfl, hb2⟩
  have HB2 : Hid (Below w.heap.size w w2) := HB.out.trans (hb2.mono HB.out.size)
  clear c0 c1 c2 c3 c4 g1 g2 g3 g7
  obtain ⟨c0, c1, c2, c3, c4⟩ := HX.out w2 hb2
  have e0 := HEW.out w2 hb2
  have g1 := e0.c1
  have g2 := e0.c2
  have g7 := e0.c7
  clear e0 hb2 KC HX
  go_wp2_with fail
  go_ret
  exact ⟨rfl, HB2.out⟩
end Go.Proofs.YtbppimahedbpoaaDoor

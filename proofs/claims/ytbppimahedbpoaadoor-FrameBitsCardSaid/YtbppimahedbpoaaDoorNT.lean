/-
  FrameBits answers true at every frame and number.
-/
import Derived.Test.YtbppimahedbpoaaDoorNT0
import Derived.Test.YtbppimahedbpoaaDoorNM
import Derived.Deep.DeepCutAuto
import Derived.Laws.NewBlocks
namespace Go.Proofs.YtbppimahedbpoaaDoor
open Go.RowKit Go.Extern.Stop Go.Stop Go.Extern

set_option maxRecDepth 100000 in
set_option maxHeartbeats 32000000 in
theorem frameBits_any (a : Nat → Addr) (f : FrameD) (fv : Value) (z : Int) (w : World) (hf : IsInts w fv f.nums) (hE : Errs w a) :
    Calls Tryd.prog 4 #[frameV f fv, .int .i64 z] w fun e w' => e = .returned (.bool true) ∧ Below w.heap.size w w' := by
  obtain ⟨fa, fc, rfl⟩ := isInts_form hf
  obtain ⟨n, hn⟩ : ∃ n, n = f.nums.length := ⟨_, rfl⟩
  obtain ⟨k1, hk1⟩ : ∃ x, x = f.kind := ⟨_, rfl⟩
  obtain ⟨f1, hf1⟩ : ∃ x, x = f.frm := ⟨_, rfl⟩
  obtain ⟨t1, ht1⟩ : ∃ x, x = f.to := ⟨_, rfl⟩
  obtain ⟨s1, hs1⟩ : ∃ x, x = f.seq := ⟨_, rfl⟩
  rw [← hn] at hf ⊢
  unfold frameV
  rw [← hk1, ← hf1, ← ht1, ← hs1]
  obtain ⟨N, hN⟩ : ∃ N, N = w.heap.size := ⟨_, rfl⟩
  obtain ⟨W, hW⟩ : ∃ W, W = w.alloc (.cells #[.int .u8 k1, .int .i64 f1, .int .i64 t1, .int .i64 s1, .slice fa n fc] TRf) := ⟨_, rfl⟩
  have hBW : Below w.heap.size w W := by rw [hW]; exact below1 w _
  have hX : W.heap[N]? = some (.cells #[.int .u8 k1, .int .i64 f1, .int .i64 t1, .int .i64 s1, .slice fa n fc] TRf (0, 0)) := by rw [hW, hN]; exact heap_new w _
  have HX : Hid (∀ wx, Below W.heap.size W wx → wx.cell? ⟨N, 0, none⟩ = some (.int .u8 k1) ∧ wx.cell? ⟨N, 1, none⟩ = some (.int .i64 f1) ∧ wx.cell? ⟨N, 2, none⟩ = some (.int .i64 t1) ∧ wx.cell? ⟨N, 3, none⟩ = some (.int .i64 s1) ∧ wx.cell? ⟨N, 4, none⟩ = some (.slice fa n fc)) := fun wx hb => by
    have h := block_keep hb hX
    refine ⟨?_, ?_, ?_, ?_, ?_⟩ <;> (rw [Lib.cell_of_heap h]; rfl)
  have HW : Hid (∀ wx, Below W.heap.size W wx → IsInts wx (.slice fa n fc) f.nums ∧ Errs wx a ∧ Below w.heap.size w wx) := fun wx hb => ⟨(hf.below hBW).below hb, (hE.below hBW).below hb, hBW.trans (hb.mono hBW.size)⟩
  have HN : Hid (n = f.nums.length ∧ k1 = f.kind ∧ f1 = f.frm ∧ t1 = f.to ∧ s1 = f.seq) := ⟨hn, hk1, hf1, ht1, hs1⟩
  have K1 : Hid (Calls Tryd.prog 6 #[] W fun e w' => e = .returned (.bool true) ∧ Below W.heap.size W w') := framed_any a W (hE.below hBW).six
  clear hX hBW hE hf hn hk1 hf1 ht1 hs1
  go_enter Tryd.func4, Tryd.ntmps4
  go_upto_region 1 with fail
  rw [← hW]
  try rw [← hN]
  clear hW hN
  go_wp2_with fail
  refine K1.out.mono ?_
  rintro e w1 ⟨rfl, hb1⟩
  have HB1 : Hid (Below W.heap.size W w1) := hb1
  clear K1 hb1
  obtain ⟨c0, c1, c2, c3, c4⟩ := HX.out w1 HB1.out
  have HBw1 : Hid (Below w.heap.size w w1) := (HW.out w1 HB1.out).2.2
  by_cases h60 : (60 : Int) < (n : Int)
  · clear c0 c1 c2 c3
    go_wp2_with fail
    go_ret
    exact ⟨rfl, HBw1.out⟩
  by_cases hz0 : z < 0
  · clear c0 c1 c2 c3
    go_wp2_with fail
    go_ret
    exact ⟨rfl, HBw1.out⟩
  have HS3 : Hid (n ≤ 60) := by show n ≤ 60; omega
  have KA : Hid (Calls Tryd.prog 7 #[.agg #[.int .u8 k1, .int .i64 f1, .int .i64 t1, .int .i64 s1, .slice fa n fc]] w1 fun e w' => ∃ na nc, e = .returned (.agg #[.int .u8 k1, .int .i64 f1, .int .i64 t1, .int .i64 s1, .slice na n nc]) ∧ IsInts w' (.slice na n nc) f.nums ∧ Below W.heap.size W w') := by
    have := asFrame_any f (.slice fa n fc) w1 (HW.out w1 HB1.out).1 (by have := HN.out.1; have := HS3.out; omega)
    unfold frameV at this
    rw [← HN.out.1, ← HN.out.2.1, ← HN.out.2.2.1, ← HN.out.2.2.2.1, ← HN.out.2.2.2.2] at this
    refine this.mono ?_
    rintro e w' ⟨na, nc, h1, h2, h3⟩
    exact ⟨na, nc, h1, h2, HB1.out.trans (h3.mono HB1.out.size)⟩
  have KE : Hid (∀ wx na nc, Below W.heap.size W wx → IsInts wx (.slice na n nc) f.nums → Calls Tryd.prog 9 #[.agg #[.int .u8 k1, .int .i64 f1, .int .i64 t1, .int .i64 s1, .slice na n nc]] wx fun e w' => ∃ t ev, e = .returned (.tuple #[.string t, ev]) ∧ ((frameE f = none ∧ t = S (textD f) ∧ ev = .nilIface) ∨ (∃ i, frameE f = some i ∧ t = ⟨#[]⟩ ∧ ev = errV a (some i))) ∧ Below W.heap.size W w') := fun wx na nc hb hi => by
    have := encode_any a f (.slice na n nc) wx (HW.out wx hb).2.1.six hi (by have := HN.out.1; have := HS3.out; omega)
    unfold frameV at this
    rw [← HN.out.2.1, ← HN.out.2.2.1, ← HN.out.2.2.2.1, ← HN.out.2.2.2.2] at this
    refine this.mono ?_
    rintro e w' ⟨t, ev, h1, h2, h3⟩
    exact ⟨t, ev, h1, h2, hb.trans (h3.mono hb.size)⟩
  go_wp2_with fail
  refine Calls.mono KA.out ?_
  rintro e w2 ⟨na, nc, rfl, hi2, hb2⟩
  have HK3 : Hid _ := KE.out w2 na nc hb2 hi2
  clear hb2 hi2 KA KE c0 c1 c2 c3 c4
  go_wp2_with fail
  refine Calls.mono HK3.out ?_
  rintro e w3 ⟨x1, ev1, rfl, hcs, hb3⟩
  rcases hcs with ⟨hfn, hx1, rfl⟩ | ⟨i, hfi, rfl, rfl⟩
  case inr =>
    have HBF : Hid (Below w.heap.size w w3) := (HW.out w3 hb3).2.2
    clear hb3 HK3 hfi
    unfold errV
    go_wp2_with fail
    go_ret
    exact ⟨rfl, HBF.out⟩
  have H3 : Hid (frameE f = none ∧ x1 = S (textD f) ∧ Below W.heap.size W w3 ∧ x1.size = 12 + 4 * n) := ⟨hfn, hx1, hb3, by rw [hx1, S_size, textD_len, HN.out.1]⟩
  have KD : Hid (Calls Tryd.prog 13 #[.string x1] w3 fun e w' => ∃ na nc, e = .returned (.tuple #[.agg #[.int .u8 k1, .int .i64 f1, .int .i64 t1, .int .i64 s1, .slice na n nc], .nilIface]) ∧ IsInts w' (.slice na n nc) f.nums ∧ Below W.heap.size W w') := by
    have hs := H3.out.2.2.2
    have := decode_any a x1 w3 (HW.out w3 hb3).2.1.six (by have := HS3.out; omega)
    refine this.mono ?_
    rintro e w' ⟨nv, h1, h2, h3⟩
    rw [hx1, S_data, decode_of hfn] at h1 h2
    obtain ⟨va, vc, rfl⟩ := isInts_form h2
    refine ⟨va, vc, ?_, by rw [HN.out.1]; exact h2, hb3.trans (h3.mono hb3.size)⟩
    rw [h1, HN.out.1, HN.out.2.1, HN.out.2.2.1, HN.out.2.2.2.1, HN.out.2.2.2.2]
    rfl
  clear hfn hx1 hb3 HK3
  go_wp2_with fail
  refine KD.out.mono ?_
  rintro e w4 ⟨na4, nc4, rfl, hi4, hb4⟩
  clear KD
  go_upto_region 8 with fail
  obtain ⟨W5, hW5⟩ : ∃ W5, W5 = w4.alloc (.cells #[.int .u8 k1, .int .i64 f1, .int .i64 t1, .int .i64 s1, .slice na4 n nc4] TFr) := ⟨_, rfl⟩
  have hB5 : Below W.heap.size W W5 := by rw [hW5]; exact hb4.alloc hb4.size _
  have hY5 : W5.heap[w4.heap.size]? = some (.cells #[.int .u8 k1, .int .i64 f1, .int .i64 t1, .int .i64 s1, .slice na4 n nc4] TFr (0, 0)) := by rw [hW5]; exact heap_new w4 _
  have c0 : W5.cell? ⟨w4.heap.size, 0, none⟩ = some (.int .u8 k1) := by rw [Lib.cell_of_heap hY5]; rfl
  have c1 : W5.cell? ⟨w4.heap.size, 1, none⟩ = some (.int .i64 f1) := by rw [Lib.cell_of_heap hY5]; rfl
  have c2 : W5.cell? ⟨w4.heap.size, 2, none⟩ = some (.int .i64 t1) := by rw [Lib.cell_of_heap hY5]; rfl
  have c3 : W5.cell? ⟨w4.heap.size, 3, none⟩ = some (.int .i64 s1) := by rw [Lib.cell_of_heap hY5]; rfl
  have c4 : W5.cell? ⟨w4.heap.size, 4, none⟩ = some (.slice na4 n nc4) := by rw [Lib.cell_of_heap hY5]; rfl
  have hi5 : IsInts W5 (.slice na4 n nc4) f.nums := by rw [hW5]; exact hi4.below (below1 w4 _)
  have KO : Hid (Calls Tryd.prog 18 #[.agg #[.int .u8 k1, .int .i64 f1, .int .i64 t1, .int .i64 s1, .slice na4 n nc4]] W5 fun e w' => e = .returned (.agg #[.int .u8 k1, .int .i64 f1, .int .i64 t1, .int .i64 s1, .slice na4 n nc4]) ∧ IsInts w' (.slice na4 n nc4) f.nums ∧ Below W.heap.size W w') := by
    have := ofFrame_any f (.slice na4 n nc4) W5 hi5
    unfold frameV at this
    rw [← HN.out.2.1, ← HN.out.2.2.1, ← HN.out.2.2.2.1, ← HN.out.2.2.2.2] at this
    refine this.mono ?_
    rintro e w' ⟨h1, h2⟩
    exact ⟨h1, hi5.below h2, hB5.trans (h2.mono hB5.size)⟩
  have KT : Hid (∀ wx, IsInts wx (.slice na4 n nc4) f.nums → Calls Tryd.prog 12 #[.agg #[.int .u8 k1, .int .i64 f1, .int .i64 t1, .int .i64 s1, .slice na4 n nc4]] wx fun e w' => e = .returned (.string x1) ∧ Below wx.heap.size wx w') := fun wx hi => by
    have := refText_any f (.slice na4 n nc4) wx hi (frameOk_of H3.out.1)
    unfold frameV at this
    rw [← HN.out.2.1, ← HN.out.2.2.1, ← HN.out.2.2.2.1, ← HN.out.2.2.2.2, ← H3.out.2.1] at this
    exact this
  rw [← hW5]
  clear hW5 hB5 hY5 hi5 hi4 hb4
  go_wp2_with fail
  refine KO.out.mono ?_
  rintro e w6 ⟨rfl, hi6, hb6⟩
  have KT6 : Hid _ := KT.out w6 hi6
  have HB6 : Hid (Below W.heap.size W w6) := hb6
  clear KO KT hi6 hb6 c0 c1 c2 c3 c4
  go_wp2_with fail
  refine Calls.mono KT6.out ?_
  rintro e w7 ⟨rfl, hb7⟩
  have HB7 : Hid (Below W.heap.size W w7 ∧ Below w.heap.size w w7) := by
    have := HB6.out.trans (hb7.mono HB6.out.size)
    exact ⟨this, (HW.out w7 this).2.2⟩
  clear KT6 hb7
  have hsz : x1.size = 12 + 4 * n := H3.out.2.2.2
  have hn60 : n ≤ 60 := HS3.out
  by_cases hbig : 8 * (x1.size : Int) ≤ z
  · go_wp2_with fail
    go_ret
    exact ⟨rfl, HB7.out.2⟩
  obtain ⟨m, hm⟩ : ∃ m, m = x1.size := ⟨_, rfl⟩
  have hm3 : m ≤ 252 := by omega
  have HPR : Hid (∃ p r : Nat, z = 8 * (p : Int) + r ∧ r < 8 ∧ p < m) := ⟨(z / 8).toNat, (z % 8).toNat, by omega, by omega, by omega⟩
  obtain ⟨p, r, hpr⟩ := HPR.out
  have HPR2 : Hid (z = 8 * (p : Int) + r ∧ r < 8 ∧ p < m) := hpr
  have q1 : z.tdiv 8 = (p : Int) := by rw [Int.tdiv_eq_ediv_of_nonneg (by omega)]; omega
  have q2 : z.tmod 8 = (r : Int) := by rw [Int.tmod_eq_emod_of_nonneg (by omega)]; omega
  have q3 : z / 8 = (p : Int) := by omega
  have q4 : z % 8 = (r : Int) := by omega
  have hp1 : (p : Int) < m := by omega
  have hr1 : (r : Int) < 8 := by omega
  have hr0 : r < 8 := hpr.2.1
  clear hpr HPR
  have hcv := conv_to x1 w7
  obtain ⟨cap, hcap⟩ : ∃ c, c = grownCap w7 x1.size 0 TB8 := ⟨_, rfl⟩
  obtain ⟨W8, hW8⟩ : ∃ W8, W8 = Lib.bytesWorld w7 TB8 x1 := ⟨_, rfl⟩
  have hby : BytesAt W8 w7.heap.size x1.data.toList := by rw [hW8]; exact bytesAt_new x1 w7
  have hb8 : Below w7.heap.size w7 W8 := by rw [hW8]; exact Go.Joins.below_bytesWorld _ w7 TB8 x1 (Nat.le_refl _)
  rw [← hcap, ← hW8, ← hm] at hcv
  clear hcap hW8
  have hxl : x1.data.toList.length = m := by rw [hm]; exact (Lib.size_eq x1).symm
  obtain ⟨u, hu⟩ : ∃ u, u = x1.data.toList.getD p 0 := ⟨_, rfl⟩
  have d0 := hby.cell p (by omega)
  have d1 := hby.fz p (by omega)
  rw [← hu] at d0
  obtain ⟨un, hun⟩ : ∃ n, n = u.toNat := ⟨_, rfl⟩
  rw [← hun] at d0
  have HB8 : Hid (BytesAt W8 w7.heap.size x1.data.toList ∧ Below w7.heap.size w7 W8 ∧ x1.data.toList.length = m ∧ u = x1.data.toList.getD p 0 ∧ un = u.toNat ∧ m = x1.size) := ⟨hby, hb8, hxl, hu, hun, hm⟩
  clear hby hb8 hxl hu hun
  obtain ⟨nb, hnb⟩ : ∃ b, b = flipB u r := ⟨_, rfl⟩
  obtain ⟨bn, hbn⟩ : ∃ n, n = nb.toNat := ⟨_, rfl⟩
  have hxr : bits .xor .u8 (un : Int) (2 ^ r % 256) = (bn : Int) := by
    have h2 : (2 : Nat) ^ r < 2 ^ 8 := Nat.pow_lt_pow_right (by decide) hr0
    have h3 : (2 : Int) ^ r % 256 = ((2 ^ r : Nat) : Int) := by
      rw [Int.natCast_pow]
      have h4 : ((2 ^ r : Nat) : Int) < 256 := by omega
      rw [Int.natCast_pow] at h4
      exact Int.emod_eq_of_lt (Int.pow_nonneg (by decide)) h4
    have hul : un < 256 := by rw [HB8.out.2.2.2.2.1]; exact u.toNat_lt
    rw [h3, Go.u8_xor_nat _ _ hul (by omega), hbn, hnb, flipB_toNat u r hr0, HB8.out.2.2.2.2.1]
  have HNB : Hid (nb ≠ x1.data.toList.getD p 0 ∧ bn = nb.toNat) := ⟨by rw [hnb, ← HB8.out.2.2.2.1]; exact flipB_ne u r hr0, hbn⟩
  clear hnb hbn
  go_upto_region 13 with fail
  clear hm hsz hbig hcv
  go_upto_region 14 with fail
  obtain ⟨W9, hW9⟩ : ∃ W9, W9 = W8.setCell ⟨w7.heap.size, p, none⟩ (.int .u8 (bn : Int)) := ⟨_, rfl⟩
  have hm12 : m = 12 + 4 * n := by rw [HB8.out.2.2.2.2.2]; exact H3.out.2.2.2
  have hby9 : BytesAt W9 w7.heap.size (x1.data.toList.set p nb) := by
    rw [hW9, HNB.out.2]
    exact HB8.out.1.set (by rw [HB8.out.2.2.1]; exact HPR2.out.2.2) nb
  have hlen9 : (x1.data.toList.set p nb).length = 12 + 4 * n := by rw [List.length_set, HB8.out.2.2.1, hm12]
  obtain ⟨y, hy⟩ : ∃ y, y = S (x1.data.toList.set p nb) := ⟨_, rfl⟩
  have hcv2 : (convert 46 9 (.slice (some ⟨w7.heap.size, 0, none⟩) (12 + 4 * n) cap)).run Tryd.prog W9 = .ok (.string y) W9 := by
    have := hby9.conv (c := cap)
    rw [hlen9, ← hy] at this
    exact this
  have hB9 : Below W.heap.size W W9 := by
    rw [hW9]
    exact (HB7.out.1.trans (HB8.out.2.1.mono HB7.out.1.size)).setCell HB7.out.1.size _
  have HDC : Hid (∃ i : Nat, (i = 0 ∨ i = 10) ∧ Calls Tryd.prog 13 #[.string y] W9 fun e w' => ∃ na nc, e = .returned (.tuple #[.agg #[.int .u8 0, .int .i64 0, .int .i64 0, .int .i64 0, .slice na 0 nc], .iface 106 (.pointer (some (a i)))]) ∧ Below W.heap.size W w') := by
    have hxd : x1.data.toList = textD f := by rw [H3.out.2.1, S_data]
    have hfl := decode_flip f p (by rw [← hxd, HB8.out.2.2.1]; exact HPR2.out.2.2) nb (by rw [← hxd]; exact HNB.out.1)
    have hda := decode_any a y W9 (HW.out W9 hB9).2.1.six (by rw [hy, S_size, hlen9]; have := HS3.out; omega)
    have key : ∀ i : Nat, (decodeD ((textD f).set p nb)).2 = some i → Calls Tryd.prog 13 #[.string y] W9 fun e w' => ∃ na nc, e = .returned (.tuple #[.agg #[.int .u8 0, .int .i64 0, .int .i64 0, .int .i64 0, .slice na 0 nc], .iface 106 (.pointer (some (a i)))]) ∧ Below W.heap.size W w' := fun i h2 => by
      refine hda.mono ?_
      rintro e w' ⟨nv, g1, g2, g3⟩
      rw [hy, S_data, hxd, hfl.1] at g1 g2
      rw [h2] at g1
      obtain ⟨va, vc, rfl⟩ := isInts_form g2
      exact ⟨va, vc, g1, hB9.trans (g3.mono hB9.size)⟩
    rcases hfl.2 with q | q
    · exact ⟨0, Or.inl rfl, key 0 q⟩
    · exact ⟨10, Or.inr rfl, key 10 q⟩
  rw [← hW9]
  clear hW9 hm12 hby9 hlen9 hy hB9 d0 d1 hxr q1 q2 q3 q4
  obtain ⟨i, hi, KDC⟩ := HDC.out
  have HKD : Hid _ := KDC
  clear KDC
  go_wp2_with fail
  refine Calls.mono HKD.out ?_
  rintro e w10 ⟨na10, nc10, rfl, hb10⟩
  clear HKD HDC hcv2
  go_upto_region 15 with fail
  obtain ⟨W11, hW11⟩ : ∃ W11, W11 = w10.alloc (.cells #[.int .u8 0, .int .i64 0, .int .i64 0, .int .i64 0, .slice na10 0 nc10] TFr) := ⟨_, rfl⟩
  have HB11 : Hid (Below W.heap.size W W11) := by
    show Below _ _ _
    rw [hW11]; exact hb10.alloc hb10.size _
  have hY : W11.heap[w10.heap.size]? = some (.cells #[.int .u8 0, .int .i64 0, .int .i64 0, .int .i64 0, .slice na10 0 nc10] TFr (0, 0)) := by rw [hW11]; exact heap_new w10 _
  have HC : Hid (∀ wx, Below W11.heap.size W11 wx → wx.cell? ⟨w10.heap.size, 0, none⟩ = some (.int .u8 0) ∧ wx.cell? ⟨w10.heap.size, 4, none⟩ = some (.slice na10 0 nc10) ∧ Below w.heap.size w wx) := fun wx hx => by
    have h := block_keep hx hY
    refine ⟨?_, ?_, (HW.out wx (HB11.out.trans (hx.mono HB11.out.size))).2.2⟩ <;> (rw [Lib.cell_of_heap h]; rfl)
  have KC : Hid (∀ (k : Int) wx, Below W11.heap.size W11 wx → Calls Tryd.prog 10 #[.iface 106 (.pointer (some (a i))), .int .i64 k] wx fun e w' => e = .returned (.bool (decide ((i : Int) + 1 = k))) ∧ Below W11.heap.size W11 w') := fun k wx hx => by
    refine (coded3_is a i k wx (by omega) (HW.out wx (HB11.out.trans (hx.mono HB11.out.size))).2.1).mono ?_
    rintro e w' ⟨h1, h2⟩
    exact ⟨h1, hx.trans (h2.mono hx.size)⟩
  rw [← hW11]
  clear hW11 hY hb10
  have KC11 : Hid _ := KC.out 11 W11 (Below.refl _ _)
  rcases hi with rfl | rfl
  · go_wp2_with fail
    refine Calls.mono KC11.out ?_
    rintro e w12 ⟨rfl, hb12⟩
    rw [decide_eq_false (by omega)]
    have KC1 : Hid _ := KC.out 1 w12 hb12
    clear KC11 hb12
    go_wp2_with fail
    refine Calls.mono KC1.out ?_
    rintro e w13 ⟨rfl, hb13⟩
    rw [decide_eq_true (by omega)]
    obtain ⟨g0, g4, hbf⟩ := HC.out w13 hb13
    have HBF : Hid (Below w.heap.size w w13) := hbf
    clear hb13 hbf KC1
    go_wp2_with fail
    go_ret
    exact ⟨rfl, HBF.out⟩
  · go_wp2_with fail
    refine Calls.mono KC11.out ?_
    rintro e w12 ⟨rfl, hb12⟩
    rw [decide_eq_true (by omega)]
    obtain ⟨g0, g4, hbf⟩ := HC.out w12 hb12
    have HBF : Hid (Below w.heap.size w w12) := hbf
    clear hb12 hbf KC11
    go_wp2_with fail
    go_ret
    exact ⟨rfl, HBF.out⟩
end Go.Proofs.YtbppimahedbpoaaDoor

/-
  The document's FrameText, by a contract.
-/
import Derived.Test.YtbppimahedbpoaaDoorNQ
import Derived.Test.YtbppimahedbpoaaDoorNF
import Derived.Lib.QuietBelow
namespace Go.Proofs.YtbppimahedbpoaaDoor
open Go.RowKit Go.Extern.Stop Go.Stop Go.Extern

set_option maxRecDepth 100000 in
set_option maxHeartbeats 8000000 in
theorem refText_any (f : FrameD) (nv : Value) (w : World) (hi : IsInts w nv f.nums) (hf : FrameOk f) :
    Calls Tryd.prog 12 #[frameV f nv] w fun e w' => e = .returned (.string (S (textD f))) ∧ Below w.heap.size w w' := by
  obtain ⟨na, nc, rfl⟩ := isInts_form hi
  have HF : Hid (FrameOk f) := hf
  obtain ⟨n, hn⟩ : ∃ n, n = f.nums.length := ⟨_, rfl⟩
  obtain ⟨kd, hkd⟩ : ∃ x : Nat, x = f.kind.toNat := ⟨_, rfl⟩
  obtain ⟨fr, hfr⟩ : ∃ x : Nat, x = f.frm.toNat := ⟨_, rfl⟩
  obtain ⟨dt, hdt⟩ : ∃ x : Nat, x = f.to.toNat := ⟨_, rfl⟩
  obtain ⟨sq, hsq⟩ : ∃ x : Nat, x = f.seq.toNat := ⟨_, rfl⟩
  have e1 : f.kind = (kd : Int) ∧ kd < 256 := by have := hf.kind; omega
  have e2 : f.frm = (fr : Int) ∧ fr < 256 := by have := hf.frm; omega
  have e3 : f.to = (dt : Int) ∧ dt < 256 := by have := hf.to; omega
  have e4 : f.seq = (sq : Int) ∧ sq < 4294967296 := by have := hf.seq; omega
  have e5 : n < 256 := by have := hf.few; omega
  have HH : Hid (headD f = highD 1 kd ++ highD 1 fr ++ highD 1 dt ++ highD 4 sq ++ highD 1 n) := by
    show _ = _
    unfold headD
    rw [hkd, hfr, hdt, hsq, hn]
  rw [← hn] at hi ⊢
  unfold frameV
  rw [e1.1, e2.1, e3.1, e4.1]
  have b1 := e1.2
  have b2 := e2.2
  have b3 := e3.2
  have b4 := e4.2
  clear e1 e2 e3 e4 hkd hfr hdt hsq
  obtain ⟨W, hW⟩ : ∃ W, W = w.alloc (.cells #[.int .u8 kd, .int .i64 fr, .int .i64 dt, .int .i64 sq, .slice na n nc] 24) := ⟨_, rfl⟩
  have hBW : Below w.heap.size w W := by rw [hW]; exact below1 w _
  have hX : W.heap[w.heap.size]? = some (.cells #[.int .u8 kd, .int .i64 fr, .int .i64 dt, .int .i64 sq, .slice na n nc] 24 (0, 0)) := by rw [hW]; exact heap_new w _
  have c0 : W.cell? ⟨w.heap.size, 0, none⟩ = some (.int .u8 kd) := by rw [Lib.cell_of_heap hX]; rfl
  have c1 : W.cell? ⟨w.heap.size, 1, none⟩ = some (.int .i64 fr) := by rw [Lib.cell_of_heap hX]; rfl
  have c2 : W.cell? ⟨w.heap.size, 2, none⟩ = some (.int .i64 dt) := by rw [Lib.cell_of_heap hX]; rfl
  have c3 : W.cell? ⟨w.heap.size, 3, none⟩ = some (.int .i64 sq) := by rw [Lib.cell_of_heap hX]; rfl
  have c4 : W.cell? ⟨w.heap.size, 4, none⟩ = some (.slice na n nc) := by rw [Lib.cell_of_heap hX]; rfl
  have HI : Hid (IsInts W (.slice na n nc) f.nums ∧ n = f.nums.length ∧ W.cell? ⟨w.heap.size, 4, none⟩ = some (.slice na n nc)) := ⟨hi.below hBW, hn, c4⟩
  have HB : Hid (Below w.heap.size w W) := hBW
  have E0 := cell_regrown c0
  have E1 := cell_regrown c1
  have E2 := cell_regrown c2
  have E3 := cell_regrown c3
  have E4 := cell_regrown c4
  have ew : IntKind.i64.wrap (kd : Int) = (kd : Int) := by rw [IntKind.wrap_i64]; omega
  have K1 : ∀ d os, Calls Tryd.prog 28 #[.int .i64 (kd : Int)] (Go.Sort.grow (redrawn W d) os) fun e w'' => e = .returned (.string (S [byteN kd])) ∧ ∃ p : Regrown, w'' = Go.Sort.grow (redrawn W p.d) p.os := fun d os => Calls.regrown_of (refByte_any kd b1 _)
  have K2 : ∀ d os, Calls Tryd.prog 28 #[.int .i64 (fr : Int)] (Go.Sort.grow (redrawn W d) os) fun e w'' => e = .returned (.string (S [byteN fr])) ∧ ∃ p : Regrown, w'' = Go.Sort.grow (redrawn W p.d) p.os := fun d os => Calls.regrown_of (refByte_any fr b2 _)
  have K3 : ∀ d os, Calls Tryd.prog 28 #[.int .i64 (dt : Int)] (Go.Sort.grow (redrawn W d) os) fun e w'' => e = .returned (.string (S [byteN dt])) ∧ ∃ p : Regrown, w'' = Go.Sort.grow (redrawn W p.d) p.os := fun d os => Calls.regrown_of (refByte_any dt b3 _)
  have K4 : ∀ d os, Calls Tryd.prog 29 #[.int .i64 (sq : Int)] (Go.Sort.grow (redrawn W d) os) fun e w'' => e = .returned (.string (S (highD 4 sq))) ∧ ∃ p : Regrown, w'' = Go.Sort.grow (redrawn W p.d) p.os := fun d os => Calls.regrown_of (refHigh_any sq b4 _)
  have K5 : ∀ d os, Calls Tryd.prog 28 #[.int .i64 (n : Int)] (Go.Sort.grow (redrawn W d) os) fun e w'' => e = .returned (.string (S [byteN n])) ∧ ∃ p : Regrown, w'' = Go.Sort.grow (redrawn W p.d) p.os := fun d os => Calls.regrown_of (refByte_any n e5 _)
  obtain ⟨s1, hs1⟩ : ∃ z, z = S [byteN kd] := ⟨_, rfl⟩
  obtain ⟨s2, hs2⟩ : ∃ z, z = S [byteN fr] := ⟨_, rfl⟩
  obtain ⟨s3, hs3⟩ : ∃ z, z = S [byteN dt] := ⟨_, rfl⟩
  obtain ⟨s4, hs4⟩ : ∃ z, z = S (highD 4 sq) := ⟨_, rfl⟩
  obtain ⟨s5, hs5⟩ : ∃ z, z = S [byteN n] := ⟨_, rfl⟩
  have l1 : s1.size = 1 := by rw [hs1, S_size]; rfl
  have l2 : s2.size = 1 := by rw [hs2, S_size]; rfl
  have l3 : s3.size = 1 := by rw [hs3, S_size]; rfl
  have l4 : s4.size = 4 := by rw [hs4, S_size]; rfl
  have l5 : s5.size = 1 := by rw [hs5, S_size]; rfl
  have HS : Hid (s1 ++ s2 ++ s3 ++ s4 ++ s5 = S (bodyK f 0)) := by
    show _ = _
    rw [bodyK_zero, HH.out, hs1, hs2, hs3, hs4, hs5, S_append, S_append, S_append, S_append, high1, high1, high1, high1]
  rw [← hs1] at K1
  rw [← hs2] at K2
  rw [← hs3] at K3
  rw [← hs4] at K4
  rw [← hs5] at K5
  clear hs1 hs2 hs3 hs4 hs5 hX hBW hn hi hf c0 c1 c2 c3 c4 b1 b2 b3 b4
  go_enter Tryd.func12, Tryd.ntmps12
  go_upto_region 1 with fail
  rw [← hW]
  clear hW
  refine wp_region_quiet_below (by kernel_rfl) (by kernel_rfl) ?_
  repeat (quiet_step (first | exact K1 _ _ | exact K2 _ _ | exact K3 _ _ | exact K4 _ _ | exact K5 _ _))
  refine wpQuiet_nil ?_
  intro _ hw'
  obtain ⟨⟨dq, osq⟩, hw''⟩ := hw'
  subst hw''
  obtain ⟨W1, hW1⟩ : ∃ W1, W1 = Go.Sort.grow (redrawn W dq) osq := ⟨_, rfl⟩
  have HB1 : Hid (Below W.heap.size W W1) := by
    show Below _ _ _
    rw [hW1]; exact below_regrown W dq osq
  rw [← hW1, HS.out]
  clear hW1 E0 E1 E2 E3 E4 K1 K2 K3 K4 K5 HS HH l1 l2 l3 l4 l5 ew
  go_wp2_with fail
  go_loopw [3, 4] (fun t3 t4 wr => ∃ k : Nat, k ≤ n ∧ t3 = .string (S (bodyK f k)) ∧ t4 = .int .i64 (k : Int) ∧ Below W.heap.size W wr) (fun _ t4 _ => (n - intOf t4).toNat)
  case atStart => exact ⟨0, Nat.zero_le _, rfl, rfl, HB1.out⟩
  case round =>
    obtain ⟨k, hk, rfl, rfl, hwr⟩ := hrel
    have c4 := cell_keep hwr HI.out.2.2
    obtain ⟨t, ht⟩ : ∃ t, t = S (bodyK f k) := ⟨_, rfl⟩
    have hts : t.size ≤ 1000 := by
      rw [ht, S_size]
      have := bodyK_len f k
      have := HF.out.few
      omega
    have HT : Hid (t = S (bodyK f k)) := ht
    rw [← ht]
    clear ht
    by_cases hlt : k < n
    · have hki : (k : Int) < n := by omega
      have hkf : k < f.nums.length := by rw [← HI.out.2.1]; exact hlt
      obtain ⟨b, o, rfl, x1⟩ := isInts_at HI.out.1 k hkf
      replace x1 := cell_keep hwr x1
      obtain ⟨z, hz⟩ : ∃ z : Nat, z = (f.nums.getD k 0).toNat := ⟨_, rfl⟩
      have hzn : f.nums.getD k 0 = (z : Int) ∧ z < 4294967296 := by
        have := HF.out.nums (f.nums.getD k 0) (by simp [List.getD, hkf])
        omega
      rw [hzn.1] at x1
      obtain ⟨u, hu⟩ : ∃ u, u = S (highD 4 z) := ⟨_, rfl⟩
      have hus : u.size = 4 := by rw [hu, S_size]; rfl
      have KH : Hid (Calls Tryd.prog 29 #[.int .i64 (z : Int)] wr fun e w' => e = .returned (.string u) ∧ Below wr.heap.size wr w') := by
        show Calls _ _ _ _ _
        rw [hu]
        exact refHigh_any z hzn.2 wr
      have HN : Hid (t ++ u = S (bodyK f (k + 1))) := by
        show _ = _
        rw [HT.out, hu, bodyK_next f k hkf, S_append, hz]
      have HWR : Hid (Below W.heap.size W wr) := hwr
      clear hkf hz hzn hu hwr
      go_wp2_with fail
      refine KH.out.mono ?_
      rintro e w2 ⟨rfl, hb2⟩
      have HB2 : Hid (Below W.heap.size W w2) := HWR.out.trans (hb2.mono HWR.out.size)
      clear hb2 KH
      go_wp2_with fail
      go_roundw
      case rel => exact ⟨k + 1, hlt, by rw [HN.out], by go_num, HB2.out⟩
      case measure => simp [intOf]; omega
    · have htb : t = S (bodyD f) := by rw [HT.out, show k = f.nums.length by rw [← HI.out.2.1]; omega, bodyK_all]
      have hcl := crcD_lt (bodyD f)
      obtain ⟨c, hc⟩ : ∃ c, c = crcD (bodyD f) := ⟨_, rfl⟩
      rw [← hc] at hcl
      obtain ⟨u, hu⟩ : ∃ u, u = S (lowD c) := ⟨_, rfl⟩
      have hus : u.size = 4 := by rw [hu, S_size]; rfl
      have KC : Hid (Calls Tryd.prog 17 #[.string t] wr fun e w' => e = .returned (.int .i64 (c : Int)) ∧ w' = wr) := by
        have := refCrc_any t wr (by omega)
        rw [htb, S_data, ← hc] at this
        rw [htb]
        exact this
      have KL : Hid (Calls Tryd.prog 30 #[.int .i64 (c : Int)] wr fun e w' => e = .returned (.string u) ∧ Below wr.heap.size wr w') := by
        show Calls _ _ _ _ _
        rw [hu]
        exact refLow_any c hcl wr
      have HE : Hid (t ++ u = S (textD f)) := by
        show _ = _
        rw [htb, hu, S_append, hc]
        rfl
      have HWR : Hid (Below w.heap.size w wr) := HB.out.trans (hwr.mono HB.out.size)
      clear hwr htb hcl hc hu
      go_wp2_with fail
      refine KC.out.mono ?_
      rintro e w2 ⟨rfl, hw⟩
      obtain rfl := hw.symm
      clear KC
      go_wp2_with fail
      refine KL.out.mono ?_
      rintro e w3 ⟨rfl, hb3⟩
      have HB3 : Hid (Below w.heap.size w w3) := HWR.out.trans (hb3.mono HWR.out.size)
      clear hb3 KL
      go_wp2_with fail
      go_ret
      exact ⟨by rw [← HE.out]; rfl, HB3.out⟩
end Go.Proofs.YtbppimahedbpoaaDoor

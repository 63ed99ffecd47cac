/-
  FrameApart answers true at any two frames and any text.
-/
import Derived.Test.YtbppimahedbpoaaDoorNK
import Derived.Test.YtbppimahedbpoaaDoorNL
import Derived.Test.YtbppimahedbpoaaDoorBaseF
import Derived.Deep.DeepCutAuto
namespace Go.Proofs.YtbppimahedbpoaaDoor
open Go.RowKit Go.Extern.Stop Go.Stop Go.Extern

/-- Encode of AsFrame, as one step: what comes of a frame. -/
theorem enc_of (a : Nat → Addr) (f : FrameD) (w w' : World) (e : Ending) (h : EncPost a f w w' e) : ∃ t ev, e = .returned (.tuple #[.string t, ev]) ∧ (ev = .nilIface ∨ ∃ x, ev = .iface 106 (.pointer (some x))) ∧ (frameE f = none → ev = .nilIface ∧ t = S (textD f)) ∧ (frameE f ≠ none → ev ≠ .nilIface ∧ t = ⟨#[]⟩) ∧ Below w.heap.size w w' := by
  obtain ⟨t, ev, rfl, hc, hb⟩ := h
  rcases hc with ⟨h1, h2, h3⟩ | ⟨i, h1, h2, h3⟩
  · exact ⟨t, ev, rfl, Or.inl h3, fun _ => ⟨h3, h2⟩, fun q => absurd h1 q, hb⟩
  · exact ⟨t, ev, rfl, Or.inr ⟨a i, h3⟩, (fun q => by rw [h1] at q; cases q), fun _ => ⟨by rw [h3]; simp [errV], h2⟩, hb⟩
theorem texts_eq {f g : FrameD} (hf : frameE f = none) (hg : frameE g = none) : ((S (textD f)).toList == (S (textD g)).toList) = decide (f = g) := by
  rw [S_toList, S_toList]
  by_cases e : f = g
  · rw [e]; simp
  · rw [decide_eq_false e]
    simp only [beq_eq_false_iff_ne, ne_eq]
    exact fun q => e (text_inj hf hg q)
theorem dec_of (a : Nat → Addr) (l : Bs) (w w' : World) (e : Ending) (h : DecPost a l w w' e) : ∃ (d : FrameD) (na : Option Addr) (nc : Nat) (er : Option Nat), e = .returned (.tuple #[.agg #[.int .u8 d.kind, .int .i64 d.frm, .int .i64 d.to, .int .i64 d.seq, .slice na d.nums.length nc], errV a er]) ∧ IsInts w' (.slice na d.nums.length nc) d.nums ∧ decodeD l = (d, er) ∧ Below w.heap.size w w' := by
  obtain ⟨nv, rfl, h2, h3⟩ := h
  obtain ⟨na, nc, rfl⟩ := isInts_form h2
  exact ⟨(decodeD l).1, na, nc, (decodeD l).2, rfl, h2, rfl, h3⟩
set_option maxRecDepth 100000 in
set_option maxHeartbeats 32000000 in
theorem frameApart_any (a : Nat → Addr) (f g : FrameD) (fv gv : Value) (s : ByteArray) (w : World) (hf : IsInts w fv f.nums) (hg : IsInts w gv g.nums) (hE : Errs6 w a) :
    Calls Tryd.prog 5 #[frameV f fv, frameV g gv, .string s] w fun e w' => e = .returned (.bool true) ∧ Below w.heap.size w w' := by
  obtain ⟨fa, fc, rfl⟩ := isInts_form hf
  obtain ⟨ga, gc, rfl⟩ := isInts_form hg
  obtain ⟨n, hn⟩ : ∃ n, n = f.nums.length := ⟨_, rfl⟩
  obtain ⟨m, hm⟩ : ∃ m, m = g.nums.length := ⟨_, rfl⟩
  obtain ⟨k1, hk1⟩ : ∃ x, x = f.kind := ⟨_, rfl⟩
  obtain ⟨f1, hf1⟩ : ∃ x, x = f.frm := ⟨_, rfl⟩
  obtain ⟨t1, ht1⟩ : ∃ x, x = f.to := ⟨_, rfl⟩
  obtain ⟨s1, hs1⟩ : ∃ x, x = f.seq := ⟨_, rfl⟩
  obtain ⟨k2, hk2⟩ : ∃ x, x = g.kind := ⟨_, rfl⟩
  obtain ⟨f2, hf2⟩ : ∃ x, x = g.frm := ⟨_, rfl⟩
  obtain ⟨t2, ht2⟩ : ∃ x, x = g.to := ⟨_, rfl⟩
  obtain ⟨s2, hs2⟩ : ∃ x, x = g.seq := ⟨_, rfl⟩
  rw [← hn] at hf ⊢
  rw [← hm] at hg ⊢
  unfold frameV
  rw [← hk1, ← hf1, ← ht1, ← hs1, ← hk2, ← hf2, ← ht2, ← hs2]
  obtain ⟨N, hN⟩ : ∃ N, N = w.heap.size := ⟨_, rfl⟩
  obtain ⟨W, hW⟩ : ∃ W, W = (w.alloc (.cells #[.int .u8 k1, .int .i64 f1, .int .i64 t1, .int .i64 s1, .slice fa n fc] TRf)).alloc (.cells #[.int .u8 k2, .int .i64 f2, .int .i64 t2, .int .i64 s2, .slice ga m gc] TRf) := ⟨_, rfl⟩
  have hBW : Below w.heap.size w W := by rw [hW]; exact (below1 w _).alloc (by simp) _
  have hX : W.heap[N]? = some (.cells #[.int .u8 k1, .int .i64 f1, .int .i64 t1, .int .i64 s1, .slice fa n fc] TRf (0, 0)) := by rw [hW, hN]; exact block_keep (below1 _ _) (heap_new w _)
  have hY : W.heap[N + 1]? = some (.cells #[.int .u8 k2, .int .i64 f2, .int .i64 t2, .int .i64 s2, .slice ga m gc] TRf (0, 0)) := by
    rw [hW, hN]
    have := heap_new (w.alloc (.cells #[.int .u8 k1, .int .i64 f1, .int .i64 t1, .int .i64 s1, .slice fa n fc] TRf)) (.cells #[.int .u8 k2, .int .i64 f2, .int .i64 t2, .int .i64 s2, .slice ga m gc] TRf)
    rw [World.size_alloc] at this
    exact this
  have HX : Hid (∀ wx, Below W.heap.size W wx → (wx.cell? ⟨N, 0, none⟩ = some (.int .u8 k1) ∧ wx.cell? ⟨N, 1, none⟩ = some (.int .i64 f1) ∧ wx.cell? ⟨N, 2, none⟩ = some (.int .i64 t1) ∧ wx.cell? ⟨N, 3, none⟩ = some (.int .i64 s1) ∧ wx.cell? ⟨N, 4, none⟩ = some (.slice fa n fc)) ∧
      (wx.cell? ⟨N + 1, 0, none⟩ = some (.int .u8 k2) ∧ wx.cell? ⟨N + 1, 1, none⟩ = some (.int .i64 f2) ∧ wx.cell? ⟨N + 1, 2, none⟩ = some (.int .i64 t2) ∧ wx.cell? ⟨N + 1, 3, none⟩ = some (.int .i64 s2) ∧ wx.cell? ⟨N + 1, 4, none⟩ = some (.slice ga m gc))) := fun wx hb => by
    have h := block_keep hb hX
    have h2 := block_keep hb hY
    refine ⟨⟨?_, ?_, ?_, ?_, ?_⟩, ⟨?_, ?_, ?_, ?_, ?_⟩⟩ <;> first | (rw [Lib.cell_of_heap h]; rfl) | (rw [Lib.cell_of_heap h2]; rfl)
  have HB : Hid (Below w.heap.size w W) := hBW
  have HW : Hid (∀ wx, Below W.heap.size W wx → IsInts wx (.slice fa n fc) f.nums ∧ IsInts wx (.slice ga m gc) g.nums ∧ Errs6 wx a ∧ Below w.heap.size w wx) := fun wx hb => ⟨(hf.below hBW).below hb, (hg.below hBW).below hb, (hE.below hBW).below hb, hBW.trans (hb.mono hBW.size)⟩
  have HN : Hid (n = f.nums.length ∧ m = g.nums.length ∧ (k1 = f.kind ∧ f1 = f.frm ∧ t1 = f.to ∧ s1 = f.seq) ∧ (k2 = g.kind ∧ f2 = g.frm ∧ t2 = g.to ∧ s2 = g.seq)) := ⟨hn, hm, ⟨hk1, hf1, ht1, hs1⟩, ⟨hk2, hf2, ht2, hs2⟩⟩
  have K1 : Hid (Calls Tryd.prog 6 #[] W fun e w' => e = .returned (.bool true) ∧ Below W.heap.size W w') := framed_any a W (hE.below hBW)
  obtain ⟨⟨c0, c1, c2, c3, c4⟩, d0, d1, d2, d3, d4⟩ := HX.out W (Below.refl _ _)
  clear hX hY hBW hE hf hg hn hm hk1 hf1 ht1 hs1 hk2 hf2 ht2 hs2
  go_enter Tryd.func5, Tryd.ntmps5
  go_upto_region 1 with fail
  rw [← hW, ← hN]
  clear hW hN
  go_wp2_with fail
  refine K1.out.mono ?_
  rintro e w1 ⟨rfl, hb1⟩
  have HB1 : Hid (Below W.heap.size W w1) := hb1
  clear K1 hb1 c0 c1 c2 c3 c4 d0 d1 d2 d3 d4
  obtain ⟨⟨c0, c1, c2, c3, c4⟩, d0, d1, d2, d3, d4⟩ := HX.out w1 HB1.out
  have HBw1 : Hid (Below w.heap.size w w1) := (HW.out w1 HB1.out).2.2.2
  by_cases h40 : 40 < n
  · have h40i : (40 : Int) < (n : Int) := by omega
    clear c0 c1 c2 c3 d0 d1 d2 d3
    go_wp2_with fail
    go_ret
    exact ⟨rfl, HBw1.out⟩
  by_cases h41 : 40 < m
  · have h41i : (40 : Int) < (m : Int) := by omega
    have h40i : ¬ (40 : Int) < (n : Int) := by omega
    clear c0 c1 c2 c3 d0 d1 d2 d3
    go_wp2_with fail
    go_ret
    exact ⟨rfl, HBw1.out⟩
  by_cases h300 : 300 < s.size
  · have h41i : ¬ (40 : Int) < (m : Int) := by omega
    have h40i : ¬ (40 : Int) < (n : Int) := by omega
    have h300i : (300 : Int) < (s.size : Int) := by omega
    clear c0 c1 c2 c3 d0 d1 d2 d3
    go_wp2_with fail
    go_ret
    exact ⟨rfl, HBw1.out⟩
  have h41i : ¬ (40 : Int) < (m : Int) := by omega
  have h40i : ¬ (40 : Int) < (n : Int) := by omega
  have h300i : ¬ (300 : Int) < (s.size : Int) := by omega
  have hs3 : s.size ≤ 300 := by omega
  have HS3 : Hid (n ≤ 40 ∧ m ≤ 40 ∧ s.size ≤ 300) := ⟨by omega, by omega, by omega⟩
  have KA : Hid (Calls Tryd.prog 7 #[.agg #[.int .u8 k1, .int .i64 f1, .int .i64 t1, .int .i64 s1, .slice fa n fc]] w1 fun e w' => ∃ na nc, e = .returned (.agg #[.int .u8 k1, .int .i64 f1, .int .i64 t1, .int .i64 s1, .slice na n nc]) ∧ IsInts w' (.slice na n nc) f.nums ∧ Below W.heap.size W w') := by
    have := asFrame_any f (.slice fa n fc) w1 (HW.out w1 HB1.out).1 (by have := HN.out.1; omega)
    unfold frameV at this
    rw [← HN.out.1, ← HN.out.2.2.1.1, ← HN.out.2.2.1.2.1, ← HN.out.2.2.1.2.2.1, ← HN.out.2.2.1.2.2.2] at this
    refine this.mono ?_
    rintro e w' ⟨na, nc, h1, h2, h3⟩
    exact ⟨na, nc, h1, h2, HB1.out.trans (h3.mono HB1.out.size)⟩
  have KG : Hid (∀ wx, Below W.heap.size W wx → Calls Tryd.prog 7 #[.agg #[.int .u8 k2, .int .i64 f2, .int .i64 t2, .int .i64 s2, .slice ga m gc]] wx fun e w' => ∃ na nc, e = .returned (.agg #[.int .u8 k2, .int .i64 f2, .int .i64 t2, .int .i64 s2, .slice na m nc]) ∧ IsInts w' (.slice na m nc) g.nums ∧ Below W.heap.size W w') := fun wx hb => by
    have := asFrame_any g (.slice ga m gc) wx (HW.out wx hb).2.1 (by have := HN.out.2.1; omega)
    unfold frameV at this
    rw [← HN.out.2.1, ← HN.out.2.2.2.1, ← HN.out.2.2.2.2.1, ← HN.out.2.2.2.2.2.1, ← HN.out.2.2.2.2.2.2] at this
    refine this.mono ?_
    rintro e w' ⟨na, nc, h1, h2, h3⟩
    exact ⟨na, nc, h1, h2, hb.trans (h3.mono hb.size)⟩
  have KE : Hid (∀ wx na nc, Below W.heap.size W wx → IsInts wx (.slice na n nc) f.nums → Calls Tryd.prog 9 #[.agg #[.int .u8 k1, .int .i64 f1, .int .i64 t1, .int .i64 s1, .slice na n nc]] wx fun e w' => ∃ t ev, e = .returned (.tuple #[.string t, ev]) ∧ (ev = .nilIface ∨ ∃ x, ev = .iface 106 (.pointer (some x))) ∧ (frameE f = none → ev = .nilIface ∧ t = S (textD f)) ∧ (frameE f ≠ none → ev ≠ .nilIface ∧ t = ⟨#[]⟩) ∧ Below W.heap.size W w') := fun wx na nc hb hi => by
    have := encode_any a f (.slice na n nc) wx (HW.out wx hb).2.2.1 hi (by have := HN.out.1; omega)
    unfold frameV at this
    rw [← HN.out.2.2.1.1, ← HN.out.2.2.1.2.1, ← HN.out.2.2.1.2.2.1, ← HN.out.2.2.1.2.2.2] at this
    refine this.mono ?_
    intro e w' q
    obtain ⟨t, ev, h1, h2, h3, h4, h5⟩ := enc_of a f wx w' e q
    exact ⟨t, ev, h1, h2, h3, h4, hb.trans (h5.mono hb.size)⟩
  have KH : Hid (∀ wx na nc, Below W.heap.size W wx → IsInts wx (.slice na m nc) g.nums → Calls Tryd.prog 9 #[.agg #[.int .u8 k2, .int .i64 f2, .int .i64 t2, .int .i64 s2, .slice na m nc]] wx fun e w' => ∃ t ev, e = .returned (.tuple #[.string t, ev]) ∧ (ev = .nilIface ∨ ∃ x, ev = .iface 106 (.pointer (some x))) ∧ (frameE g = none → ev = .nilIface ∧ t = S (textD g)) ∧ (frameE g ≠ none → ev ≠ .nilIface ∧ t = ⟨#[]⟩) ∧ Below W.heap.size W w') := fun wx na nc hb hi => by
    have := encode_any a g (.slice na m nc) wx (HW.out wx hb).2.2.1 hi (by have := HN.out.2.1; omega)
    unfold frameV at this
    rw [← HN.out.2.2.2.1, ← HN.out.2.2.2.2.1, ← HN.out.2.2.2.2.2.1, ← HN.out.2.2.2.2.2.2] at this
    refine this.mono ?_
    intro e w' q
    obtain ⟨t, ev, h1, h2, h3, h4, h5⟩ := enc_of a g wx w' e q
    exact ⟨t, ev, h1, h2, h3, h4, hb.trans (h5.mono hb.size)⟩
  clear h40 h41 h300
  go_wp2_with fail
  refine Calls.mono KA.out ?_
  rintro e w2 ⟨na, nc, rfl, hi2, hb2⟩
  have K3 := KE.out w2 na nc hb2 hi2
  have HK3 : Hid _ := K3
  have HB2 : Hid (Below W.heap.size W w2) := hb2
  clear K3 hb2 hi2 KA KE c0 c1 c2 c3 c4 d0 d1 d2 d3 d4
  go_wp2_with fail
  refine Calls.mono HK3.out ?_
  rintro e w3 ⟨x1, ev1, rfl, hev1, hn1, hs1, hb3⟩
  have H3 : Hid ((frameE f = none → ev1 = .nilIface ∧ x1 = S (textD f)) ∧ (frameE f ≠ none → ev1 ≠ .nilIface ∧ x1 = ⟨#[]⟩) ∧ Below W.heap.size W w3 ∧ (ev1 = .nilIface ∨ ∃ x, ev1 = .iface 106 (.pointer (some x)))) := ⟨hn1, hs1, hb3, hev1⟩
  clear hn1 hs1 hb3 HK3 hev1
  obtain ⟨-, d0, d1, d2, d3, d4⟩ := HX.out w3 H3.out.2.2.1
  have HK4 : Hid _ := KG.out w3 H3.out.2.2.1
  clear KG
  go_wp2_with fail
  refine Calls.mono HK4.out ?_
  rintro e w4 ⟨na2, nc2, rfl, hi4, hb4⟩
  have HK5 : Hid _ := KH.out w4 na2 nc2 hb4 hi4
  clear hi4 hb4 HK4 KH d0 d1 d2 d3 d4
  go_wp2_with fail
  refine Calls.mono HK5.out ?_
  rintro e w5 ⟨x2, ev2, rfl, hev2, hn2, hs2, hb5⟩
  have H5 : Hid ((frameE g = none → ev2 = .nilIface ∧ x2 = S (textD g)) ∧ (frameE g ≠ none → ev2 ≠ .nilIface ∧ x2 = ⟨#[]⟩) ∧ Below W.heap.size W w5 ∧ (ev2 = .nilIface ∨ ∃ x, ev2 = .iface 106 (.pointer (some x)))) := ⟨hn2, hs2, hb5, hev2⟩
  clear hn2 hs2 hb5 HK5 hev2
  have HBE : ∀ wx, Below W.heap.size W wx → Below w.heap.size w wx := fun wx hb => (HW.out wx hb).2.2.2
  rcases H3.out.2.2.2 with rfl | ⟨xa1, rfl⟩
  · rcases H5.out.2.2.2 with rfl | ⟨xa2, rfl⟩
    · have hfn : frameE f = none := Classical.byContradiction fun q => (H3.out.2.1 q).1 rfl
      have hgn : frameE g = none := Classical.byContradiction fun q => (H5.out.2.1 q).1 rfl
      obtain ⟨D, hD⟩ : ∃ D, D = decide (f = g) := ⟨_, rfl⟩
      have HXE : Hid ((x1.toList == x2.toList) = D) := by
        show _ = _
        rw [(H3.out.1 hfn).2, (H5.out.1 hgn).2, texts_eq hfn hgn, hD]
      have HDD : Hid (D = decide (f = g)) := hD
      obtain ⟨⟨c0, c1, c2, c3, c4⟩, d0, d1, d2, d3, d4⟩ := HX.out w5 H5.out.2.2.1
      have KS : Hid (Calls Tryd.prog 15 #[.slice fa n fc, .slice ga m gc] w5 fun e w' => e = .returned (.bool (decide (f.nums = g.nums))) ∧ Below W.heap.size W w') := by
        have hq := HW.out w5 H5.out.2.2.1
        refine (sameInts_any f.nums g.nums _ _ w5 (by have := HN.out.1; have := HS3.out.1; omega) (by have := HN.out.2.1; have := HS3.out.2.1; omega) hq.1 hq.2.1).mono ?_
        rintro e w' ⟨h1, h2⟩
        exact ⟨h1, H5.out.2.2.1.trans (h2.mono H5.out.2.2.1.size)⟩
      have HFG : Hid (k1 = k2 → f1 = f2 → t1 = t2 → s1 = s2 → decide (f.nums = g.nums) = D) := by
        intro q1 q2 q3 q4
        obtain ⟨-, -, ⟨e1, e2, e3, e4⟩, e5, e6, e7, e8⟩ := HN.out
        rw [hD]
        refine decide_eq_decide.2 ⟨fun q => ?_, fun q => by rw [q]⟩
        obtain ⟨fk, ff, ft, fs, fn⟩ := f
        obtain ⟨gk, gf, gt, gs, gn⟩ := g
        simp only at e1 e2 e3 e4 e5 e6 e7 e8 q
        rw [← e1, ← e2, ← e3, ← e4, ← e5, ← e6, ← e7, ← e8, q1, q2, q3, q4, q]
      have HNE : Hid (¬ (k1 = k2 ∧ f1 = f2 ∧ t1 = t2 ∧ s1 = s2) → D = false) := by
        intro q
        obtain ⟨-, -, ⟨e1, e2, e3, e4⟩, e5, e6, e7, e8⟩ := HN.out
        rw [hD]
        refine decide_eq_false fun e => q ?_
        rw [e1, e2, e3, e4, e5, e6, e7, e8, e]
        exact ⟨rfl, rfl, rfl, rfl⟩
      clear hfn hgn hD HBE
      go_upto_region 7 with fail
      go_cut [12] (fun s12 wx => s12 = .bool D ∧ Below W.heap.size W wx)
      case first =>
        by_cases h1 : k1 = k2
        · by_cases h2 : f1 = f2
          · by_cases h3 : t1 = t2
            · by_cases h4 : s1 = s2
              · have hq := HFG.out h1 h2 h3 h4
                rw [hq] at KS
                clear hq HFG HNE HXE HDD
                subst h1 h2 h3 h4
                go_wp2_with (go_at_call 15; refine KS.out.mono ?_; rintro e w6 ⟨rfl, hb6⟩)
                go_meet
                exact ⟨rfl, hb6⟩
              · have hq := HNE.out (fun q => h4 q.2.2.2)
                subst hq
                clear HFG HNE HXE HDD KS
                subst h1 h2 h3
                go_wp2_with fail
                go_meet
                exact ⟨rfl, H5.out.2.2.1⟩
            · have hq := HNE.out (fun q => h3 q.2.2.1)
              subst hq
              clear HFG HNE HXE HDD KS
              subst h1 h2
              go_wp2_with fail
              go_meet
              exact ⟨rfl, H5.out.2.2.1⟩
          · have hq := HNE.out (fun q => h2 q.2.1)
            subst hq
            clear HFG HNE HXE HDD KS
            subst h1
            go_wp2_with fail
            go_meet
            exact ⟨rfl, H5.out.2.2.1⟩
        · have hq := HNE.out (fun q => h1 q.1)
          subst hq
          clear HFG HNE HXE HDD KS
          go_wp2_with fail
          go_meet
          exact ⟨rfl, H5.out.2.2.1⟩
      case rest =>
      obtain ⟨rfl, hb6⟩ := hcut
      have hx := HXE.out
      have HB6 : Hid (Below W.heap.size W wc) := hb6
      clear hb6 HFG HNE KS c0 c1 c2 c3 c4 d0 d1 d2 d3 d4
      go_upto_region 10 with fail
      clear hx
      have KD : Hid (Calls Tryd.prog 13 #[.string s] wc fun e w' => ∃ (d : FrameD) (na : Option Addr) (nc : Nat) (er : Option Nat), e = .returned (.tuple #[.agg #[.int .u8 d.kind, .int .i64 d.frm, .int .i64 d.to, .int .i64 d.seq, .slice na d.nums.length nc], errV a er]) ∧ IsInts w' (.slice na d.nums.length nc) d.nums ∧ decodeD s.data.toList = (d, er) ∧ Below W.heap.size W w') := by
        refine (decode_any a s wc (HW.out wc HB6.out).2.2.1 (by have := HS3.out.2.2; omega)).mono ?_
        intro e w' q
        obtain ⟨d, na, nc, er, h1, h2, h3, h4⟩ := dec_of a _ _ _ _ q
        exact ⟨d, na, nc, er, h1, h2, h3, HB6.out.trans (h4.mono HB6.out.size)⟩
      go_wp2_with fail
      refine Calls.mono KD.out ?_
      rintro e w7 ⟨d, na3, nc3, er, rfl, hi7, hd, hb7⟩
      obtain ⟨q, hq⟩ : ∃ q, q = d.nums.length := ⟨_, rfl⟩
      obtain ⟨k3, hk3⟩ : ∃ x, x = d.kind := ⟨_, rfl⟩
      obtain ⟨f3, hf3⟩ : ∃ x, x = d.frm := ⟨_, rfl⟩
      obtain ⟨t3, ht3⟩ : ∃ x, x = d.to := ⟨_, rfl⟩
      obtain ⟨s3, hs3'⟩ : ∃ x, x = d.seq := ⟨_, rfl⟩
      obtain ⟨w8, hw8⟩ : ∃ z, z = w7.alloc (.cells #[.int .u8 k3, .int .i64 f3, .int .i64 t3, .int .i64 s3, .slice na3 q nc3] TFr) := ⟨_, rfl⟩
      have hb78 : Below w7.heap.size w7 w8 := by rw [hw8]; exact below1 w7 _
      have hb8 := hb7.trans (hb78.mono hb7.size)
      obtain ⟨fb, hfb⟩ : ∃ b, b = w7.heap.size := ⟨_, rfl⟩
      have hF8 : w8.heap[fb]? = some (.cells #[.int .u8 k3, .int .i64 f3, .int .i64 t3, .int .i64 s3, .slice na3 q nc3] TFr (0, 0)) := by rw [hw8, hfb]; exact heap_new w7 _
      cases er with
      | some i =>
        have hnf : d = noFrame := by
          have := decode_none (l := s.data.toList) (i := i) (by rw [hd])
          rw [hd] at this
          exact this
        have hq0 : q = 0 := by rw [hq, hnf]; rfl
        have HE8 : Hid (Below w.heap.size w w8) := (HW.out w8 hb8).2.2.2
        rw [← hq, ← hk3, ← hf3, ← ht3, ← hs3']
        obtain ⟨z0, z1, z2, z3, z4, -, -, -, -, -⟩ := resF hF8
        clear hd hq hk3 hf3 ht3 hs3' hi7 hb7 hb78 hb8 hF8 hnf KD z0 z1 z2 z3
        subst hq0
        unfold errV
        go_upto_region 11 with fail
        rw [← hfb, ← hw8]
        clear hfb hw8
        go_wp2_with fail
        go_ret
        exact ⟨rfl, HE8.out⟩
      | none =>
        obtain ⟨h1, h2, h3⟩ := decode_text (l := s.data.toList) (by rw [hd])
        rw [hd] at h1 h2 h3
        simp only at h1 h2 h3
        have hsl : (s.size : Int) = 12 + 4 * (q : Int) := by
          rw [← Lib.size_eq] at h3
          omega
        have KE9 : Hid (Calls Tryd.prog 9 #[.agg #[.int .u8 k3, .int .i64 f3, .int .i64 t3, .int .i64 s3, .slice na3 q nc3]] w8 fun e w' => e = .returned (.tuple #[.string s, .nilIface]) ∧ Below w8.heap.size w8 w') := by
          have := encode_any a d (.slice na3 q nc3) w8 (HW.out w8 hb8).2.2.1 (by rw [hq]; exact hi7.below hb78) (by have := HS3.out.2.2; omega)
          unfold frameV at this
          rw [← hk3, ← hf3, ← ht3, ← hs3'] at this
          refine this.mono ?_
          intro e w' qq
          obtain ⟨t, ev, g1, g2, g3, g4, g5⟩ := enc_of a d w8 w' e qq
          obtain ⟨g6, g7⟩ := g3 h1
          rw [g7, h2, S_of, g6] at g1
          exact ⟨g1, g5⟩
        have HF8 : Hid (w8.heap[fb]? = some (.cells #[.int .u8 k3, .int .i64 f3, .int .i64 t3, .int .i64 s3, .slice na3 q nc3] TFr (0, 0)) ∧ Below W.heap.size W w8 ∧ (s.size : Int) = 12 + 4 * (q : Int)) := ⟨hF8, hb8, hsl⟩
        rw [← hq, ← hk3, ← hf3, ← ht3, ← hs3']
        obtain ⟨z0, z1, z2, z3, z4, -, -, -, -, -⟩ := resF hF8
        clear hd hq hk3 hf3 ht3 hs3' hi7 hb7 hb78 hb8 hF8 KD h1 h2 h3 hsl
        unfold errV
        go_upto_region 11 with fail
        rw [← hfb, ← hw8]
        clear hfb hw8
        go_wp2_with fail
        refine KE9.out.mono ?_
        rintro e w9 ⟨rfl, hb9⟩
        have HE9 : Hid (Below w.heap.size w w9) := (HW.out w9 (HF8.out.2.1.trans (hb9.mono HF8.out.2.1.size))).2.2.2
        have z4b : w9.cell? ⟨fb, 4, none⟩ = some (.slice na3 q nc3) := cell_keep hb9 z4
        have hsl := HF8.out.2.2
        clear hb9 KE9
        clear z0 z1 z2 z3 z4
        go_wp2_with fail
        go_ret
        exact ⟨by first | rfl | simp, HE9.out⟩
    · clear HBE
      go_upto_region 10 with fail
      have KD : Hid (Calls Tryd.prog 13 #[.string s] w5 fun e w' => ∃ (d : FrameD) (na : Option Addr) (nc : Nat) (er : Option Nat), e = .returned (.tuple #[.agg #[.int .u8 d.kind, .int .i64 d.frm, .int .i64 d.to, .int .i64 d.seq, .slice na d.nums.length nc], errV a er]) ∧ IsInts w' (.slice na d.nums.length nc) d.nums ∧ decodeD s.data.toList = (d, er) ∧ Below W.heap.size W w') := by
        refine (decode_any a s w5 (HW.out w5 H5.out.2.2.1).2.2.1 (by have := HS3.out.2.2; omega)).mono ?_
        intro e w' q
        obtain ⟨d, na, nc, er, h1, h2, h3, h4⟩ := dec_of a _ _ _ _ q
        exact ⟨d, na, nc, er, h1, h2, h3, H5.out.2.2.1.trans (h4.mono H5.out.2.2.1.size)⟩
      go_wp2_with fail
      refine Calls.mono KD.out ?_
      rintro e w7 ⟨d, na3, nc3, er, rfl, hi7, hd, hb7⟩
      obtain ⟨q, hq⟩ : ∃ q, q = d.nums.length := ⟨_, rfl⟩
      obtain ⟨k3, hk3⟩ : ∃ x, x = d.kind := ⟨_, rfl⟩
      obtain ⟨f3, hf3⟩ : ∃ x, x = d.frm := ⟨_, rfl⟩
      obtain ⟨t3, ht3⟩ : ∃ x, x = d.to := ⟨_, rfl⟩
      obtain ⟨s3, hs3'⟩ : ∃ x, x = d.seq := ⟨_, rfl⟩
      obtain ⟨w8, hw8⟩ : ∃ z, z = w7.alloc (.cells #[.int .u8 k3, .int .i64 f3, .int .i64 t3, .int .i64 s3, .slice na3 q nc3] TFr) := ⟨_, rfl⟩
      have hb78 : Below w7.heap.size w7 w8 := by rw [hw8]; exact below1 w7 _
      have hb8 := hb7.trans (hb78.mono hb7.size)
      obtain ⟨fb, hfb⟩ : ∃ b, b = w7.heap.size := ⟨_, rfl⟩
      have hF8 : w8.heap[fb]? = some (.cells #[.int .u8 k3, .int .i64 f3, .int .i64 t3, .int .i64 s3, .slice na3 q nc3] TFr (0, 0)) := by rw [hw8, hfb]; exact heap_new w7 _
      cases er with
      | some i =>
        have hnf : d = noFrame := by
          have := decode_none (l := s.data.toList) (i := i) (by rw [hd])
          rw [hd] at this
          exact this
        have hq0 : q = 0 := by rw [hq, hnf]; rfl
        have HE8 : Hid (Below w.heap.size w w8) := (HW.out w8 hb8).2.2.2
        rw [← hq, ← hk3, ← hf3, ← ht3, ← hs3']
        obtain ⟨z0, z1, z2, z3, z4, -, -, -, -, -⟩ := resF hF8
        clear hd hq hk3 hf3 ht3 hs3' hi7 hb7 hb78 hb8 hF8 hnf KD z0 z1 z2 z3
        subst hq0
        unfold errV
        go_upto_region 11 with fail
        rw [← hfb, ← hw8]
        clear hfb hw8
        go_wp2_with fail
        go_ret
        exact ⟨rfl, HE8.out⟩
      | none =>
        obtain ⟨h1, h2, h3⟩ := decode_text (l := s.data.toList) (by rw [hd])
        rw [hd] at h1 h2 h3
        simp only at h1 h2 h3
        have hsl : (s.size : Int) = 12 + 4 * (q : Int) := by
          rw [← Lib.size_eq] at h3
          omega
        have KE9 : Hid (Calls Tryd.prog 9 #[.agg #[.int .u8 k3, .int .i64 f3, .int .i64 t3, .int .i64 s3, .slice na3 q nc3]] w8 fun e w' => e = .returned (.tuple #[.string s, .nilIface]) ∧ Below w8.heap.size w8 w') := by
          have := encode_any a d (.slice na3 q nc3) w8 (HW.out w8 hb8).2.2.1 (by rw [hq]; exact hi7.below hb78) (by have := HS3.out.2.2; omega)
          unfold frameV at this
          rw [← hk3, ← hf3, ← ht3, ← hs3'] at this
          refine this.mono ?_
          intro e w' qq
          obtain ⟨t, ev, g1, g2, g3, g4, g5⟩ := enc_of a d w8 w' e qq
          obtain ⟨g6, g7⟩ := g3 h1
          rw [g7, h2, S_of, g6] at g1
          exact ⟨g1, g5⟩
        have HF8 : Hid (w8.heap[fb]? = some (.cells #[.int .u8 k3, .int .i64 f3, .int .i64 t3, .int .i64 s3, .slice na3 q nc3] TFr (0, 0)) ∧ Below W.heap.size W w8 ∧ (s.size : Int) = 12 + 4 * (q : Int)) := ⟨hF8, hb8, hsl⟩
        rw [← hq, ← hk3, ← hf3, ← ht3, ← hs3']
        obtain ⟨z0, z1, z2, z3, z4, -, -, -, -, -⟩ := resF hF8
        clear hd hq hk3 hf3 ht3 hs3' hi7 hb7 hb78 hb8 hF8 KD h1 h2 h3 hsl
        unfold errV
        go_upto_region 11 with fail
        rw [← hfb, ← hw8]
        clear hfb hw8
        go_wp2_with fail
        refine KE9.out.mono ?_
        rintro e w9 ⟨rfl, hb9⟩
        have HE9 : Hid (Below w.heap.size w w9) := (HW.out w9 (HF8.out.2.1.trans (hb9.mono HF8.out.2.1.size))).2.2.2
        have z4b : w9.cell? ⟨fb, 4, none⟩ = some (.slice na3 q nc3) := cell_keep hb9 z4
        have hsl := HF8.out.2.2
        clear hb9 KE9
        clear z0 z1 z2 z3 z4
        go_wp2_with fail
        go_ret
        exact ⟨by first | rfl | simp, HE9.out⟩
  · clear HBE
    go_upto_region 10 with fail
    have KD : Hid (Calls Tryd.prog 13 #[.string s] w5 fun e w' => ∃ (d : FrameD) (na : Option Addr) (nc : Nat) (er : Option Nat), e = .returned (.tuple #[.agg #[.int .u8 d.kind, .int .i64 d.frm, .int .i64 d.to, .int .i64 d.seq, .slice na d.nums.length nc], errV a er]) ∧ IsInts w' (.slice na d.nums.length nc) d.nums ∧ decodeD s.data.toList = (d, er) ∧ Below W.heap.size W w') := by
      refine (decode_any a s w5 (HW.out w5 H5.out.2.2.1).2.2.1 (by have := HS3.out.2.2; omega)).mono ?_
      intro e w' q
      obtain ⟨d, na, nc, er, h1, h2, h3, h4⟩ := dec_of a _ _ _ _ q
      exact ⟨d, na, nc, er, h1, h2, h3, H5.out.2.2.1.trans (h4.mono H5.out.2.2.1.size)⟩
    go_wp2_with fail
    refine Calls.mono KD.out ?_
    rintro e w7 ⟨d, na3, nc3, er, rfl, hi7, hd, hb7⟩
    obtain ⟨q, hq⟩ : ∃ q, q = d.nums.length := ⟨_, rfl⟩
    obtain ⟨k3, hk3⟩ : ∃ x, x = d.kind := ⟨_, rfl⟩
    obtain ⟨f3, hf3⟩ : ∃ x, x = d.frm := ⟨_, rfl⟩
    obtain ⟨t3, ht3⟩ : ∃ x, x = d.to := ⟨_, rfl⟩
    obtain ⟨s3, hs3'⟩ : ∃ x, x = d.seq := ⟨_, rfl⟩
    obtain ⟨w8, hw8⟩ : ∃ z, z = w7.alloc (.cells #[.int .u8 k3, .int .i64 f3, .int .i64 t3, .int .i64 s3, .slice na3 q nc3] TFr) := ⟨_, rfl⟩
    have hb78 : Below w7.heap.size w7 w8 := by rw [hw8]; exact below1 w7 _
    have hb8 := hb7.trans (hb78.mono hb7.size)
    obtain ⟨fb, hfb⟩ : ∃ b, b = w7.heap.size := ⟨_, rfl⟩
    have hF8 : w8.heap[fb]? = some (.cells #[.int .u8 k3, .int .i64 f3, .int .i64 t3, .int .i64 s3, .slice na3 q nc3] TFr (0, 0)) := by rw [hw8, hfb]; exact heap_new w7 _
    cases er with
    | some i =>
      have hnf : d = noFrame := by
        have := decode_none (l := s.data.toList) (i := i) (by rw [hd])
        rw [hd] at this
        exact this
      have hq0 : q = 0 := by rw [hq, hnf]; rfl
      have HE8 : Hid (Below w.heap.size w w8) := (HW.out w8 hb8).2.2.2
      rw [← hq, ← hk3, ← hf3, ← ht3, ← hs3']
      obtain ⟨z0, z1, z2, z3, z4, -, -, -, -, -⟩ := resF hF8
      clear hd hq hk3 hf3 ht3 hs3' hi7 hb7 hb78 hb8 hF8 hnf KD z0 z1 z2 z3
      subst hq0
      unfold errV
      go_upto_region 11 with fail
      rw [← hfb, ← hw8]
      clear hfb hw8
      go_wp2_with fail
      go_ret
      exact ⟨rfl, HE8.out⟩
    | none =>
      obtain ⟨h1, h2, h3⟩ := decode_text (l := s.data.toList) (by rw [hd])
      rw [hd] at h1 h2 h3
      simp only at h1 h2 h3
      have hsl : (s.size : Int) = 12 + 4 * (q : Int) := by
        rw [← Lib.size_eq] at h3
        omega
      have KE9 : Hid (Calls Tryd.prog 9 #[.agg #[.int .u8 k3, .int .i64 f3, .int .i64 t3, .int .i64 s3, .slice na3 q nc3]] w8 fun e w' => e = .returned (.tuple #[.string s, .nilIface]) ∧ Below w8.heap.size w8 w') := by
        have := encode_any a d (.slice na3 q nc3) w8 (HW.out w8 hb8).2.2.1 (by rw [hq]; exact hi7.below hb78) (by have := HS3.out.2.2; omega)
        unfold frameV at this
        rw [← hk3, ← hf3, ← ht3, ← hs3'] at this
        refine this.mono ?_
        intro e w' qq
        obtain ⟨t, ev, g1, g2, g3, g4, g5⟩ := enc_of a d w8 w' e qq
        obtain ⟨g6, g7⟩ := g3 h1
        rw [g7, h2, S_of, g6] at g1
        exact ⟨g1, g5⟩
      have HF8 : Hid (w8.heap[fb]? = some (.cells #[.int .u8 k3, .int .i64 f3, .int .i64 t3, .int .i64 s3, .slice na3 q nc3] TFr (0, 0)) ∧ Below W.heap.size W w8 ∧ (s.size : Int) = 12 + 4 * (q : Int)) := ⟨hF8, hb8, hsl⟩
      rw [← hq, ← hk3, ← hf3, ← ht3, ← hs3']
      obtain ⟨z0, z1, z2, z3, z4, -, -, -, -, -⟩ := resF hF8
      clear hd hq hk3 hf3 ht3 hs3' hi7 hb7 hb78 hb8 hF8 KD h1 h2 h3 hsl
      unfold errV
      go_upto_region 11 with fail
      rw [← hfb, ← hw8]
      clear hfb hw8
      go_wp2_with fail
      refine KE9.out.mono ?_
      rintro e w9 ⟨rfl, hb9⟩
      have HE9 : Hid (Below w.heap.size w w9) := (HW.out w9 (HF8.out.2.1.trans (hb9.mono HF8.out.2.1.size))).2.2.2
      have z4b : w9.cell? ⟨fb, 4, none⟩ = some (.slice na3 q nc3) := cell_keep hb9 z4
      have hsl := HF8.out.2.2
      clear hb9 KE9
      clear z0 z1 z2 z3 z4
      go_wp2_with fail
      go_ret
      exact ⟨by first | rfl | simp, HE9.out⟩
end Go.Proofs.YtbppimahedbpoaaDoor

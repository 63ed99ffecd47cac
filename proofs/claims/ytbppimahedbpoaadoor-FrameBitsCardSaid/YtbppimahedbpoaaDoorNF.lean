/-
  Package frame: Encode, by a contract.
-/
import Derived.Test.YtbppimahedbpoaaDoorNE
namespace Go.Proofs.YtbppimahedbpoaaDoor
open Go.RowKit Go.Extern.Stop Go.Stop Go.Extern

abbrev putV (tb : Nat) : Value := .func (Fn.func 35) #[] #[.pointer (some ⟨tb, 0, none⟩)]
abbrev writtenV (tb : Nat) : Value := .func (Fn.func 36) #[] #[.pointer (some ⟨tb, 0, none⟩)]
theorem writer_any (w : World) : Calls Tryd.prog 20 #[] w fun e w' => e = .returned (.tuple #[putV w.heap.size, writtenV w.heap.size]) ∧ w' = w.alloc (.cells #[.slice none 0 0] TBy) := by
  go_enter Tryd.func20, Tryd.ntmps20
  go_wp2_with fail
  go_ret2
  exact ⟨rfl, rfl⟩
theorem textM_new (w : World) : TextM (w.alloc (.cells #[.slice none 0 0] TBy)) w.heap.size w.heap.size (.slice none 0 0) [] := ⟨Nat.le_refl _, heap_new w _, World.ownsRow_nil _ _ _ _⟩
/-- The bytes of a row as a text. -/
theorem conv_text {w : World} {B tb : Nat} {v : Value} {l : Bs} (h : TextM w B tb v l) (hl : l ≠ []) : (convert 46 9 v).run Tryd.prog w = .ok (.string (S l)) w := by
  rcases h.row.2 with ⟨_, q⟩ | ⟨g, cap, cur, rfl, -, hh, hr1, hr2, hr3, hr4⟩
  · have : l.length = 0 := q
    exact absurd (List.eq_nil_of_length_eq_zero this) hl
  · refine run_convert_bytes_back (P := Tryd.prog) w 46 9 5 ⟨g, 0, none⟩ cap l Tryd.underlying46 Tryd.underlying5 Tryd.underlying9 (fun j hj => ?_)
    rw [Addr.add_lit, Nat.zero_add, Lib.cell_of_heap hh]
    have h1 : (l.map byV)[j]? = some (byV l[j]) := by simp [hj]
    rw [← hr4, List.getElem?_take, if_pos (by omega)] at h1
    simpa [byV] using h1
theorem written_any (w : World) (B tb : Nat) (v : Value) (l : Bs) (h : TextM w B tb v l) (hl : l ≠ []) : Calls Tryd.prog 36 #[.pointer (some ⟨tb, 0, none⟩)] w fun e w' => e = .returned (.string (S l)) ∧ w' = w := by
  have hc := conv_text h hl
  have c0 : w.cell? ⟨tb, 0, none⟩ = some v := by rw [Lib.cell_of_heap h.blk]; rfl
  obtain ⟨va, vc, rfl⟩ := owns_form h.row
  obtain ⟨n, hn⟩ : ∃ n, n = l.length := ⟨_, rfl⟩
  obtain ⟨t, ht⟩ : ∃ t, t = S l := ⟨_, rfl⟩
  rw [← hn] at hc c0
  rw [← ht] at hc ⊢
  clear h hl hn ht
  go_enter Tryd.func36, Tryd.ntmps36
  go_wp2_with fail
  go_ret
  exact ⟨rfl, rfl⟩
/-- A frame's bytes ahead of its numbers. -/
def headD (f : FrameD) : Bs := highD 1 f.kind.toNat ++ highD 1 f.frm.toNat ++ highD 1 f.to.toNat ++ highD 4 f.seq.toNat ++ highD 1 f.nums.length
theorem headD_len (f : FrameD) : (headD f).length = 8 := by simp [headD, highD_len]
def bodyK (f : FrameD) (k : Nat) : Bs := headD f ++ (f.nums.take k).flatMap fun n => highD 4 n.toNat
theorem bodyK_zero (f : FrameD) : bodyK f 0 = headD f := by simp [bodyK]
theorem bodyK_all (f : FrameD) : bodyK f f.nums.length = bodyD f := by simp [bodyK, bodyD, headD]
theorem bodyK_next (f : FrameD) (k : Nat) (h : k < f.nums.length) : bodyK f (k + 1) = bodyK f k ++ highD 4 (f.nums.getD k 0).toNat := by
  unfold bodyK
  rw [List.take_succ_eq_append_getElem h, List.flatMap_append, List.append_assoc]
  simp [List.getD, h]
theorem flat4_len (l : List Int) : (l.flatMap fun n => highD 4 n.toNat).length = 4 * l.length := by
  induction l with
  | nil => rfl
  | cons x l ih => rw [List.flatMap_cons, List.length_append, ih, highD_len, List.length_cons]; omega
theorem bodyK_len (f : FrameD) (k : Nat) : (bodyK f k).length ≤ 8 + 4 * f.nums.length := by
  unfold bodyK
  rw [List.length_append, headD_len, flat4_len, List.length_take]
  omega
theorem bodyD_len (f : FrameD) : (bodyD f).length = 8 + 4 * f.nums.length := by
  rw [← bodyK_all]
  unfold bodyK
  rw [List.length_append, headD_len, flat4_len, List.take_length]
def EncPost (a : Nat → Addr) (f : FrameD) (w w' : World) (e : Ending) : Prop :=
  ∃ t ev, e = .returned (.tuple #[.string t, ev]) ∧ ((frameE f = none ∧ t = S (textD f) ∧ ev = .nilIface) ∨ (∃ i, frameE f = some i ∧ t = ⟨#[]⟩ ∧ ev = errV a (some i))) ∧ Below w.heap.size w w'
set_option maxRecDepth 100000 in
set_option maxHeartbeats 16000000 in
theorem encode_any (a : Nat → Addr) (f : FrameD) (nv : Value) (w : World) (hE : Errs6 w a) (hi : IsInts w nv f.nums) (hl : f.nums.length ≤ 1000000) :
    Calls Tryd.prog 9 #[frameV f nv] w fun e w' => EncPost a f w w' e := by
  obtain ⟨na, nc, rfl⟩ := isInts_form hi
  obtain ⟨n, hn⟩ : ∃ n, n = f.nums.length := ⟨_, rfl⟩
  obtain ⟨kd, hkd⟩ : ∃ x, x = f.kind := ⟨_, rfl⟩
  obtain ⟨fr, hfr⟩ : ∃ x, x = f.frm := ⟨_, rfl⟩
  obtain ⟨to, hto⟩ : ∃ x, x = f.to := ⟨_, rfl⟩
  obtain ⟨sq, hsq⟩ : ∃ x, x = f.seq := ⟨_, rfl⟩
  have HN : Hid (n = f.nums.length ∧ kd = f.kind ∧ fr = f.frm ∧ to = f.to ∧ sq = f.seq) := ⟨hn, hkd, hfr, hto, hsq⟩
  obtain ⟨W, hW⟩ : ∃ W, W = w.alloc (.cells #[.int .u8 kd, .int .i64 fr, .int .i64 to, .int .i64 sq, .slice na n nc] TFr) := ⟨_, rfl⟩
  have hBW : Below w.heap.size w W := by rw [hW]; exact below1 w _
  have KC : Hid (Calls Tryd.prog 11 #[.agg #[.int .u8 kd, .int .i64 fr, .int .i64 to, .int .i64 sq, .slice na n nc]] W fun e w' => e = .returned (errV a (frameE f)) ∧ Below W.heap.size W w') := by
    have := check_any a f (.slice na f.nums.length nc) W (hE.below hBW) (hi.below hBW) hl
    unfold frameV at this
    rw [← hn, ← hkd, ← hfr, ← hto, ← hsq] at this
    exact this
  rw [← hn] at hi hl
  unfold frameV
  rw [← hn, ← hkd, ← hfr, ← hto, ← hsq]
  have hX : W.heap[w.heap.size]? = some (.cells #[.int .u8 kd, .int .i64 fr, .int .i64 to, .int .i64 sq, .slice na n nc] TFr (0, 0)) := by rw [hW]; exact heap_new w _
  have HX : Hid (∀ wx, Below W.heap.size W wx → wx.cell? ⟨w.heap.size, 0, none⟩ = some (.int .u8 kd) ∧ wx.cell? ⟨w.heap.size, 1, none⟩ = some (.int .i64 fr) ∧ wx.cell? ⟨w.heap.size, 2, none⟩ = some (.int .i64 to) ∧ wx.cell? ⟨w.heap.size, 3, none⟩ = some (.int .i64 sq) ∧ wx.cell? ⟨w.heap.size, 4, none⟩ = some (.slice na n nc)) := fun wx hb => by
    have h := block_keep hb hX
    refine ⟨?_, ?_, ?_, ?_, ?_⟩ <;> rw [Lib.cell_of_heap h] <;> rfl
  have HI : Hid (∀ wx, Below W.heap.size W wx → IsInts wx (.slice na n nc) f.nums) := fun wx hb => (hi.below hBW).below hb
  have HB : Hid (Below w.heap.size w W) := hBW
  obtain ⟨c0, c1, c2, c3, c4⟩ := HX.out W (Below.refl _ _)
  clear hX hBW hE hi
  cases hf : frameE f with
  | some i =>
    rw [hf] at KC
    have HF : Hid (frameE f = some i) := hf
    clear hf hn hkd hfr hto hsq
    go_enter Tryd.func9, Tryd.ntmps9
    go_upto_region 1 with fail
    rw [← hW]
    clear hW
    go_wp2_with fail
    refine KC.out.mono ?_
    rintro e w1 ⟨rfl, hb⟩
    have HB1 : Hid (Below w.heap.size w w1) := HB.out.trans (hb.mono HB.out.size)
    clear hb KC c0 c1 c2 c3 c4
    unfold errV
    go_wp2_with fail
    go_ret2
    exact ⟨_, _, rfl, Or.inr ⟨i, HF.out, rfl, rfl⟩, HB1.out⟩
  | none =>
    rw [hf] at KC
    have hok := frameOk_of hf
    have HF : Hid (frameE f = none ∧ FrameOk f) := ⟨hf, hok⟩
    have hk0 : 0 ≤ kd ∧ kd < 256 := by rw [hkd]; have := hok.kind; omega
    have hn2 : n ≤ 200 := by rw [hn]; exact hok.few
    have hk1 := hk0.1
    have hk2 := hk0.2
    have HV : Hid (kd = ((f.kind.toNat : Nat) : Int) ∧ fr = ((f.frm.toNat : Nat) : Int) ∧ to = ((f.to.toNat : Nat) : Int) ∧ sq = ((f.seq.toNat : Nat) : Int)) := by
      have := hok.kind
      have := hok.frm
      have := hok.to
      have := hok.seq
      refine ⟨?_, ?_, ?_, ?_⟩ <;> omega
    clear hf hn hkd hfr hto hsq hk0 hok
    go_enter Tryd.func9, Tryd.ntmps9
    go_upto_region 1 with fail
    rw [← hW]
    clear hW
    go_wp2_with fail
    refine KC.out.mono ?_
    rintro e w1 ⟨rfl, hb⟩
    obtain ⟨B, hB⟩ : ∃ B, B = w1.heap.size := ⟨_, rfl⟩
    have HB1 : Hid (Below W.heap.size W w1 ∧ B = w1.heap.size) := ⟨hb, hB⟩
    -- in every world that keeps what lies below B
    have HY : Hid (∀ wx, Below B w1 wx → Below W.heap.size W wx) := fun wx hx => hb.trans (hx.mono (by rw [hB]; exact hb.size))
    have KW : Hid (Calls Tryd.prog 20 #[] w1 fun e w' => e = .returned (.tuple #[putV B, writtenV B]) ∧ (∃ v, TextM w' B B v []) ∧ Below B w1 w') := by
      refine (writer_any w1).mono ?_
      rintro e w' ⟨rfl, rfl⟩
      rw [hB]
      exact ⟨rfl, ⟨_, textM_new w1⟩, below1 w1 _⟩
    have KP : Hid (∀ wx l (size : Nat) (x : Int) (m : Nat), (∃ v, TextM wx B B v l) → Below B w1 wx → l.length ≤ 100000 → (size = 1 ∨ size = 4) → x = (m : Int) → Calls Tryd.prog 35 #[.int .i64 (size : Int), .int .i64 x, .pointer (some ⟨B, 0, none⟩)] wx fun e w' => e = .returned (.tuple #[]) ∧ (∃ v', TextM w' B B v' (l ++ highD size m)) ∧ Below B w1 w') := fun wx l size x m hv hx hl hs hm => by
      obtain ⟨v, hv⟩ := hv
      rw [hm]
      refine (put_any wx B B v l hv hl size m hs).mono ?_
      rintro e w' ⟨h1, h2, h3⟩
      exact ⟨h1, h2, hx.trans h3⟩
    clear hb hB KC c0 c1 c2 c3 c4
    unfold errV
    go_wp2_with fail
    refine KW.out.mono ?_
    rintro e w2 ⟨rfl, hv, hb⟩
    have H2 : Hid ((∃ v, TextM w2 B B v []) ∧ Below B w1 w2) := ⟨hv, hb⟩
    obtain ⟨c0, c1, c2, c3, c4⟩ := HX.out w2 (HY.out w2 hb)
    clear hv hb KW
    go_wp2_with fail
    refine (KP.out w2 [] 1 kd f.kind.toNat H2.out.1 H2.out.2 (by simp) (Or.inl rfl) HV.out.1).mono ?_
    rintro e w3 ⟨rfl, hv, hb⟩
    have H3 : Hid ((∃ v, TextM w3 B B v ([] ++ highD 1 f.kind.toNat)) ∧ Below B w1 w3) := ⟨hv, hb⟩
    clear hv hb H2 c0 c1 c2 c3 c4
    obtain ⟨c0, c1, c2, c3, c4⟩ := HX.out w3 (HY.out w3 H3.out.2)
    go_wp2_with fail
    refine (KP.out w3 _ 1 fr f.frm.toNat H3.out.1 H3.out.2 (by simp [highD_len]) (Or.inl rfl) HV.out.2.1).mono ?_
    rintro e w4 ⟨rfl, hv, hb⟩
    have H4 : Hid ((∃ v, TextM w4 B B v ([] ++ highD 1 f.kind.toNat ++ highD 1 f.frm.toNat)) ∧ Below B w1 w4) := ⟨hv, hb⟩
    clear hv hb H3 c0 c1 c2 c3 c4
    obtain ⟨c0, c1, c2, c3, c4⟩ := HX.out w4 (HY.out w4 H4.out.2)
    go_wp2_with fail
    refine (KP.out w4 _ 1 to f.to.toNat H4.out.1 H4.out.2 (by simp [highD_len]) (Or.inl rfl) HV.out.2.2.1).mono ?_
    rintro e w5 ⟨rfl, hv, hb⟩
    have H5 : Hid ((∃ v, TextM w5 B B v ([] ++ highD 1 f.kind.toNat ++ highD 1 f.frm.toNat ++ highD 1 f.to.toNat)) ∧ Below B w1 w5) := ⟨hv, hb⟩
    clear hv hb H4 c0 c1 c2 c3 c4
    obtain ⟨c0, c1, c2, c3, c4⟩ := HX.out w5 (HY.out w5 H5.out.2)
    go_wp2_with fail
    refine (KP.out w5 _ 4 sq f.seq.toNat H5.out.1 H5.out.2 (by simp [highD_len]) (Or.inr rfl) HV.out.2.2.2).mono ?_
    rintro e w6 ⟨rfl, hv, hb⟩
    have H6 : Hid ((∃ v, TextM w6 B B v ([] ++ highD 1 f.kind.toNat ++ highD 1 f.frm.toNat ++ highD 1 f.to.toNat ++ highD 4 f.seq.toNat)) ∧ Below B w1 w6) := ⟨hv, hb⟩
    clear hv hb H5 c0 c1 c2 c3 c4
    obtain ⟨c0, c1, c2, c3, c4⟩ := HX.out w6 (HY.out w6 H6.out.2)
    go_wp2_with fail
    refine (KP.out w6 _ 1 n n H6.out.1 H6.out.2 (by simp [highD_len]) (Or.inl rfl) rfl).mono ?_
    rintro e w7 ⟨rfl, hv, hb⟩
    have H7 : Hid ((∃ v, TextM w7 B B v (bodyK f 0)) ∧ Below B w1 w7) := ⟨by rw [bodyK_zero]; rw [HN.out.1] at hv; exact hv, hb⟩
    clear hv hb H6 c0 c1 c2 c3 c4
    obtain ⟨c0, c1, c2, c3, c4⟩ := HX.out w7 (HY.out w7 H7.out.2)
    go_wp2_with fail
    clear c0 c1 c2 c3 c4
    go_loopw [44] (fun t wr => ∃ k : Nat, k ≤ n ∧ t = .int .i64 k ∧ (∃ v, TextM wr B B v (bodyK f k)) ∧ Below B w1 wr) (fun t _ => (n - intOf t).toNat)
    case atStart => exact ⟨0, Nat.zero_le _, rfl, H7.out⟩
    case round =>
      clear H7
      obtain ⟨k, hk, rfl, hv, hb⟩ := hrel
      by_cases hlt : k < n
      · have hki : (k : Int) < n := by omega
        have hkl : k < f.nums.length := by rw [← HN.out.1]; exact hlt
        obtain ⟨g, o, rfl, ez⟩ := isInts_at (HI.out wr (HY.out wr hb)) k hkl
        obtain ⟨z, hz⟩ : ∃ z, z = f.nums.getD k 0 := ⟨_, rfl⟩
        have hz0 : z = ((z.toNat : Nat) : Int) := by
          have := HF.out.2.nums z (by rw [hz]; simp [List.getD, hkl])
          omega
        rw [← hz] at ez
        have hlen := bodyK_len f k
        have hn3 : f.nums.length ≤ 200 := HF.out.2.few
        have KZ : Hid (Calls Tryd.prog 35 #[.int .i64 4, .int .i64 z, .pointer (some ⟨B, 0, none⟩)] wr fun e w' => e = .returned (.tuple #[]) ∧ (∃ v', TextM w' B B v' (bodyK f (k + 1))) ∧ Below B w1 w') := by
          have := KP.out wr (bodyK f k) 4 z z.toNat hv hb (by omega) (Or.inr rfl) hz0
          rw [bodyK_next f k hkl, ← hz]
          exact this
        clear hv hb hz hz0 hlen hn3 hkl
        go_wp2_with fail
        refine KZ.out.mono ?_
        rintro e w8 ⟨rfl, hv, hb⟩
        have H8 : Hid ((∃ v', TextM w8 B B v' (bodyK f (k + 1))) ∧ Below B w1 w8) := ⟨hv, hb⟩
        clear hv hb KZ ez
        go_wp2_with fail
        go_roundw
        case rel => exact ⟨k + 1, hlt, by go_num, H8.out⟩
        case measure => simp [intOf]; omega
      · have hkn : k = f.nums.length := by rw [← HN.out.1]; omega
        have hkn2 : bodyK f k = bodyD f := by rw [hkn, bodyK_all]
        rw [hkn2] at hv
        obtain ⟨v, hv⟩ := hv
        have hne : bodyD f ≠ [] := fun q => by
          have h1 := bodyD_len f
          rw [q] at h1
          have h0 : ([] : Bs).length = 0 := rfl
          omega
        have hbl := bodyD_len f
        have hn3 : f.nums.length ≤ 200 := HF.out.2.few
        obtain ⟨bt, hbt⟩ : ∃ t, t = S (bodyD f) := ⟨_, rfl⟩
        have hbs : bt.size = (bodyD f).length := by rw [hbt, S_size]
        have hbd : bt.data.toList = bodyD f := by rw [hbt, S_data]
        have K1 : Hid (Calls Tryd.prog 36 #[.pointer (some ⟨B, 0, none⟩)] wr fun e w' => e = .returned (.string bt) ∧ w' = wr) := by
          show Calls _ _ _ _ _
          rw [hbt]; exact written_any wr B B v _ hv hne
        obtain ⟨st, hst⟩ : ∃ t, t = S (lowD (crcD (bodyD f))) := ⟨_, rfl⟩
        have K2 : Hid (Calls Tryd.prog 21 #[.string bt] wr fun e w' => e = .returned (.string st) ∧ Below wr.heap.size wr w') := by
          have := sumText_any bt wr (by omega)
          rw [hbd] at this
          rw [hst]; exact this
        have HT : Hid (bt ++ st = S (textD f) ∧ Below w.heap.size w wr) := ⟨by rw [hbt, hst, S_append]; rfl, HB.out.trans ((HY.out wr hb).mono HB.out.size)⟩
        have hs1 : bt.size ≤ 1000 := by omega
        have hs2 : st.size ≤ 4 := by rw [hst, S_size]; exact Nat.le_refl _
        clear hv hb hkn hkn2 hne hbl hn3 hbt hbs hbd hst
        go_wp2_with fail
        refine K1.out.mono ?_
        rintro e w8 ⟨rfl, hw⟩
        obtain rfl := hw.symm
        go_wp2_with fail
        refine K2.out.mono ?_
        rintro e w9 ⟨rfl, hb⟩
        have H9 : Hid (Below w.heap.size w w9) := HT.out.2.trans (hb.mono HT.out.2.size)
        clear hb K1 K2
        go_wp2_with fail
        go_ret2
        exact ⟨_, _, rfl, Or.inl ⟨HF.out.1, HT.out.1, rfl⟩, H9.out⟩
end Go.Proofs.YtbppimahedbpoaaDoor

/-
  ProgTells answers true at every program, text and number that read as plain data.
-/
import Derived.Test.YtakmmpbkojhmhaaGreatDoorUSM
import Derived.Test.YtakmmpbkojhmhaaGreatDoorXBM
import Derived.Test.YtakmmpbkojhmhaaGreatDoorXFM
import Derived.Test.YtakmmpbkojhmhaaGreatDoorXIM
import Derived.Lib.QuietBelow
namespace Go.Proofs.YtakmmpbkojhmhaaGreatDoor
open Go.RowKit Go.Extern.Stop Go.Stop Go.Extern

theorem readD_lt (s : Bs) : ∀ x, (readD s).2 = some x → x.1 < 11 := by
  intro x hx
  have hl : ∀ (ls : List Bs) (P : ProgD) (k : Nat) (rest : Bs) (x : Nat × Int), (goLines P k rest ls).2 = some x → x.1 < 11 := by
    intro ls
    induction ls with
    | nil =>
      intro P k rest x h
      unfold goLines at h
      split at h
      · cases h
      · cases h; exact Nat.zero_lt_succ _
    | cons l r ih =>
      intro P k rest x h
      unfold goLines at h
      have hag := line_agree P l
      split at h
      · rename_i e he
        cases h
        rw [hag] at he
        split at he
        · cases he; exact Nat.zero_lt_succ _
        · unfold resE at he
          split at he
          · cases he
          · split at he
            · cases he; exact Nat.zero_lt_succ _
            · cases he; show 5 < 11; omega
      · exact ih _ _ _ _ h
  unfold readD at hx
  split at hx
  · cases hx; decide
  · split at hx
    · rename_i e he
      cases hx
      exact hl _ _ _ _ _ he
    · split at hx
      · rename_i e he
        cases hx
        have := checkE_lt he
        exact this
      · cases hx
theorem readD_small (s : Bs) : SmallP (readD s).1 := by
  have h0 : SmallP noProg := ⟨Nat.zero_le _, Nat.zero_le _, Nat.zero_le _, fun _ hf => absurd hf List.not_mem_nil, fun _ hf => absurd hf List.not_mem_nil⟩
  unfold readD
  split
  · exact h0
  · rename_i h
    split
    · exact h0
    · split
      · exact h0
      · exact lines_small s (by omega)
theorem keep5u {w0 w : World} {p0 p1 p2 p3 p4 : Addr} {v0 v1 v2 v3 v4 : Value} (k0 : w0.cell? p0 = some v0) (k1 : w0.cell? p1 = some v1) (k2 : w0.cell? p2 = some v2) (k3 : w0.cell? p3 = some v3) (k4 : w0.cell? p4 = some v4) (hb : Below w0.heap.size w0 w) : Below w0.heap.size w0 w ∧ w.cell? p0 = some v0 ∧ w.cell? p1 = some v1 ∧ w.cell? p2 = some v2 ∧ w.cell? p3 = some v3 ∧ w.cell? p4 = some v4 :=
  ⟨hb, cell_keep hb k0, cell_keep hb k1, cell_keep hb k2, cell_keep hb k3, cell_keep hb k4⟩

set_option maxRecDepth 100000 in
set_option maxHeartbeats 8000000 in
theorem tells_long (a : Nat → Addr) (P : ProgD) (v1 v2 v3 : Value) (s : Bs) (z : Int) (w : World) (h : IsProg w v1 v2 v3 P) (hE : Errs w a) (hM : MaxL w) (_hz0 : -9223372036854775808 ≤ z) (_hz1 : z ≤ 9223372036854775807) (hl : 1500 < s.length ∧ s.length ≠ 4001) :
    Calls Tryz.prog 4 #[.agg #[v1, v2, v3], .string (S s), .int .i64 z] w fun e w' => e = .returned (.bool true) ∧ Below w.heap.size w w' := by
  have H : Hid (IsProg w v1 v2 v3 P) := h
  have HE : Hid (Errs w a) := hE
  have HM : Hid (MaxL w) := hM
  obtain ⟨⟨a1, c1, rfl, -, -⟩, ⟨a2, c2, rfl, -, -⟩, ⟨a3, c3, rfl, -, -⟩⟩ := h
  obtain ⟨n1, hn1⟩ : ∃ m, m = P.vars.length := ⟨_, rfl⟩
  obtain ⟨n2, hn2⟩ : ∃ m, m = P.funs.length := ⟨_, rfl⟩
  obtain ⟨n3, hn3⟩ : ∃ m, m = P.stmts.length := ⟨_, rfl⟩
  have HN : Hid (n1 = P.vars.length ∧ n2 = P.funs.length ∧ n3 = P.stmts.length) := ⟨hn1, hn2, hn3⟩
  rw [← hn1, ← hn2, ← hn3] at H ⊢
  clear hn1 hn2 hn3 hE hM
  obtain ⟨W, hW⟩ : ∃ W, W = w.alloc (.cells #[.slice a1 n1 c1, .slice a2 n2 c2, .slice a3 n3 c3] 43) := ⟨_, rfl⟩
  have hBW : Below w.heap.size w W := by rw [hW]; exact below1 w _
  have HBX : Hid (Box3 W w.heap.size (.slice a1 n1 c1) (.slice a2 n2 c2) (.slice a3 n3 c3)) := by
    show Box3 W _ _ _ _
    rw [hW]; exact box3_new w _ _ _ _
  have K1 : Hid (Calls Tryz.prog 23 #[] W fun e w' => e = .returned (.bool true) ∧ Below W.heap.size W w') := programmed_any a W (HE.out.five.below hBW)
  rw [hW] at K1
  obtain ⟨bs, hbs⟩ : ∃ b, b = S s := ⟨_, rfl⟩
  have HBS : Hid (bs = S s) := hbs
  have g1 : (1500 : Int) < bs.size := by rw [hbs, S_size]; omega
  have g2 : ((bs.size : Int) != 4001) = true := by
    have : bs.size ≠ 4001 := by rw [hbs, S_size]; exact hl.2
    simp; omega
  clear hl
  rw [← hbs]
  clear hbs
  go_enter Tryz.func4, Tryz.ntmps4
  go_wp2_with fail
  refine K1.out.mono ?_
  rintro e w1 ⟨rfl, hB1⟩
  rw [← hW] at hB1
  clear K1 hW
  obtain ⟨p0, p1, p2⟩ := HBX.out.below hB1
  have hB1w : Below w.heap.size w w1 := hBW.trans (hB1.mono hBW.size)
  go_wp2_with fail
  refine (large_any P _ _ _ w1 (H.out.below hB1w)).mono ?_
  rintro e w2 ⟨r, rfl, hr, hB2⟩
  have hB2w : Below w.heap.size w w2 := hB1w.trans (hB2.mono hB1w.size)
  rcases hr with rfl | ⟨rfl, hs, hsn⟩
  · go_wp2_with fail
    go_ret
    exact ⟨rfl, hB2w⟩
  clear hs hsn
  go_wp2_with fail
  go_ret
  exact ⟨rfl, hB2w⟩
end Go.Proofs.YtakmmpbkojhmhaaGreatDoor

/-
  ProgTells answers true: texts of at most 1500 bytes.
-/
namespace Go.Proofs.YtakmmpbkojhmhaaGreatDoor
open Go.RowKit Go.Extern.Stop Go.Stop Go.Extern

set_option maxRecDepth 100000 in
set_option maxHeartbeats 8000000 in
theorem tells_short (a : Nat → Addr) (P : ProgD) (v1 v2 v3 : Value) (s : Bs) (z : Int) (w : World) (h : IsProg w v1 v2 v3 P) (hE : Errs w a) (hM : MaxL w) (hz0 : -9223372036854775808 ≤ z) (hz1 : z ≤ 9223372036854775807) (hl : s.length ≤ 1500) :
    Calls Tryz.prog 4 #[.agg #[v1, v2, v3], .string (S s), .int .i64 z] w fun e w' => e = .returned (.bool true) ∧ Below w.heap.size w w' := by
  have H : Hid (IsProg w v1 v2 v3 P) := h
  have HE : Hid (Errs w a) := hE
  have HM : Hid (MaxL w) := hM
  obtain ⟨⟨a1, c1, rfl, -, -⟩, ⟨a2, c2, rfl, -, -⟩, ⟨a3, c3, rfl, -, -⟩⟩ := h
  obtain ⟨n1, hn1⟩ : ∃ m, m = P.vars.length := ⟨_, rfl⟩
  obtain ⟨n2, hn2⟩ : ∃ m, m = P.funs.length := ⟨_, rfl⟩
  obtain ⟨n3, hn3⟩ : ∃ m, m = P.stmts.length := ⟨_, rfl⟩
  have HN : Hid (n1 = P.vars.length ∧ n2 = P.funs.length ∧ n3 = P.stmts.length) := ⟨hn1, hn2, hn3⟩
  rw [← hn1, ← hn2, ← hn3] at H ⊢
  clear hn1 hn2 hn3 hE hM
  obtain ⟨W, hW⟩ : ∃ W, W = w.alloc (.cells #[.slice a1 n1 c1, .slice a2 n2 c2, .slice a3 n3 c3] 43) := ⟨_, rfl⟩
  have hBW : Below w.heap.size w W := by rw [hW]; exact below1 w _
  have HBX : Hid (Box3 W w.heap.size (.slice a1 n1 c1) (.slice a2 n2 c2) (.slice a3 n3 c3)) := by
    show Box3 W _ _ _ _
    rw [hW]; exact box3_new w _ _ _ _
  have K1 : Hid (Calls Tryz.prog 23 #[] W fun e w' => e = .returned (.bool true) ∧ Below W.heap.size W w') := programmed_any a W (HE.out.five.below hBW)
  rw [hW] at K1
  obtain ⟨bs, hbs⟩ : ∃ b, b = S s := ⟨_, rfl⟩
  have HBS : Hid (bs = S s) := hbs
  have g1 : ¬ (1500 : Int) < bs.size := by rw [hbs, S_size]; omega
  clear hl
  rw [← hbs]
  clear hbs
  go_enter Tryz.func4, Tryz.ntmps4
  go_wp2_with fail
  refine K1.out.mono ?_
  rintro e w1 ⟨rfl, hB1⟩
  rw [← hW] at hB1
  clear K1 hW
  obtain ⟨p0, p1, p2⟩ := HBX.out.below hB1
  have hB1w : Below w.heap.size w w1 := hBW.trans (hB1.mono hBW.size)
  go_wp2_with fail
  refine (large_any P _ _ _ w1 (H.out.below hB1w)).mono ?_
  rintro e w2 ⟨r, rfl, hr, hB2⟩
  have hB2w : Below w.heap.size w w2 := hB1w.trans (hB2.mono hB1w.size)
  rcases hr with rfl | ⟨rfl, hs, hsn⟩
  · go_wp2_with fail
    go_ret
    exact ⟨rfl, hB2w⟩
  have HS : Hid (SmallP P) := hs
  have HSN : Hid (SmallN P) := hsn
  clear hsn
  have X2 : Hid (Box3 w2 w.heap.size (.slice a1 n1 c1) (.slice a2 n2 c2) (.slice a3 n3 c3)) := (HBX.out.below hB1).below hB2
  clear p0 p1 p2 hs hB1 hB1w hB2
  obtain ⟨p0, p1, p2⟩ := X2.out
  go_wp2_with fail
  refine (ownProgram_any P _ _ _ w2 HS.out (H.out.below hB2w)).mono ?_
  rintro e w3 ⟨u1, u2, u3, rfl, hq, hB3⟩
  have hB3w : Below w.heap.size w w3 := hB2w.trans (hB3.mono hB2w.size)
  have X3 : Hid (Box3 w3 w.heap.size (.slice a1 n1 c1) (.slice a2 n2 c2) (.slice a3 n3 c3)) := X2.out.below hB3
  have HQ3 : Hid (IsProg w3 u1 u2 u3 P) := hq
  obtain ⟨⟨b1, d1, rfl, -, -⟩, ⟨b2, d2, rfl, -, -⟩, ⟨b3, d3, rfl, -, -⟩⟩ := hq
  rw [← HN.out.1, ← HN.out.2.1, ← HN.out.2.2] at HQ3
  rw [← HN.out.1, ← HN.out.2.1, ← HN.out.2.2]
  obtain ⟨W4, hW4⟩ : ∃ W, W = w3.alloc (.cells #[.slice b1 n1 d1, .slice b2 n2 d2, .slice b3 n3 d3] 43) := ⟨_, rfl⟩
  obtain ⟨qb, hqb⟩ : ∃ b, b = w3.heap.size := ⟨_, rfl⟩
  have hB4 : Below w3.heap.size w3 W4 := by rw [hW4]; exact below1 w3 _
  have hB4w : Below w.heap.size w W4 := hB3w.trans (hB4.mono hB3w.size)
  have XP : Hid (Box3 W4 w.heap.size (.slice a1 n1 c1) (.slice a2 n2 c2) (.slice a3 n3 c3)) := X3.out.below hB4
  have XQ : Hid (Box3 W4 qb (.slice b1 n1 d1) (.slice b2 n2 d2) (.slice b3 n3 d3)) := by
    show Box3 W4 _ _ _ _
    rw [hW4, hqb]; exact box3_new w3 _ _ _ _
  have HQ : Hid (IsProg W4 (.slice b1 n1 d1) (.slice b2 n2 d2) (.slice b3 n3 d3) P) := HQ3.out.below hB4
  obtain ⟨ce, hce⟩ : ∃ c, c = codeE (checkE P) := ⟨_, rfl⟩
  obtain ⟨pe, hpe⟩ : ∃ c, c = placeE (checkE P) := ⟨_, rfl⟩
  have K5 : Hid (Calls Tryz.prog 26 #[.agg #[.slice a1 n1 c1, .slice a2 n2 c2, .slice a3 n3 c3]] W4 fun e w' => e = .returned (.agg #[.int .i64 ce, .int .i64 pe]) ∧ Below W4.heap.size W4 w') := by
    rw [hce, hpe]; exact refFault_any P _ _ _ W4 HS.out HSN.out (H.out.below hB4w)
  have HCE : Hid (ce = codeE (checkE P) ∧ pe = placeE (checkE P)) := ⟨hce, hpe⟩
  clear p0 p1 p2 X2 X3 HQ3 hB3w hB3 hB2w hB4 hce hpe g1
  obtain ⟨p0, p1, p2⟩ := XP.out
  rw [hW4] at K5 p0 p1 p2
  go_wp2_with fail
  refine K5.out.mono ?_
  rintro e w5 ⟨rfl, hB5⟩
  rw [← hW4] at hB5
  rw [← hqb]
  clear K5 hW4 hqb p0 p1 p2
  go_upto_region 6 with fail
  obtain ⟨W5, hW5⟩ : ∃ W5, W5 = w5.alloc (.cells #[.int .i64 ce, .int .i64 pe] 47) := ⟨_, rfl⟩
  obtain ⟨fb, hfb⟩ : ∃ b, b = w5.heap.size := ⟨_, rfl⟩
  have hB45 : Below W4.heap.size W4 W5 := by rw [hW5]; exact hB5.alloc hB5.size _
  have hB5w : Below w.heap.size w W5 := hB4w.trans (hB45.mono hB4w.size)
  have f0 : W5.cell? ⟨fb, 0, none⟩ = some (.int .i64 ce) := by rw [hW5, hfb]; simp
  have f1 : W5.cell? ⟨fb, 1, none⟩ = some (.int .i64 pe) := by rw [hW5, hfb]; simp
  rw [← hW5, ← hfb]
  clear hW5 hfb hB5
  have HKN : Hid (∀ wx, Below W5.heap.size W5 wx → IsProg wx (.slice b1 n1 d1) (.slice b2 n2 d2) (.slice b3 n3 d3) P ∧ IsProg wx (.slice a1 n1 c1) (.slice a2 n2 c2) (.slice a3 n3 c3) P ∧ Errs wx a ∧ Box3 wx qb (.slice b1 n1 d1) (.slice b2 n2 d2) (.slice b3 n3 d3) ∧ Box3 wx w.heap.size (.slice a1 n1 c1) (.slice a2 n2 c2) (.slice a3 n3 c3) ∧ wx.cell? ⟨fb, 0, none⟩ = some (.int .i64 ce) ∧ wx.cell? ⟨fb, 1, none⟩ = some (.int .i64 pe) ∧ MaxL wx ∧ Below w.heap.size w wx) := fun wx hb =>
    ⟨(HQ.out.below hB45).below hb, (H.out.below hB5w).below hb, (HE.out.below hB5w).below hb, (XQ.out.below hB45).below hb, (XP.out.below hB45).below hb, cell_keep hb f0, cell_keep hb f1, (HM.out.below hB5w).below hb, hB5w.trans (hb.mono hB5w.size)⟩
  obtain ⟨q0, q1, q2⟩ := (HKN.out W5 (Below.refl _ _)).2.2.2.1
  have KC : Hid (∀ wx, Below W5.heap.size W5 wx → Calls Tryz.prog 28 #[.agg #[.slice b1 n1 d1, .slice b2 n2 d2, .slice b3 n3 d3]] wx fun e w' => ∃ v', e = .returned v' ∧ ErrV w' a (checkE P) v' ∧ Below W5.heap.size W5 w') := fun wx hb => by
    refine (check_any a P _ _ _ wx HS.out (HKN.out wx hb).1 (HKN.out wx hb).2.2.1.five).mono fun e w' ⟨v', h1, h2, h3⟩ => ?_
    exact ⟨v', h1, h2, hb.trans (h3.mono hb.size)⟩
  have KV0 : Hid (∀ wx v, Below W5.heap.size W5 wx → ErrV wx a (checkE P) v → Calls Tryz.prog 27 #[v, .agg #[.int .i64 ce, .int .i64 pe]] wx fun r w' => r = .returned (.bool true) ∧ Below W5.heap.size W5 w') := fun wx v hb hv => by
    refine (faulted_any a (checkE P) v ce pe wx (HKN.out wx hb).2.2.1 hv (fun x hx => checkE_lt hx) HCE.out.1 HCE.out.2).mono fun e w' ⟨h1, h2⟩ => ?_
    exact ⟨h1, hb.trans (h2.mono hb.size)⟩
  clear hB45 hB5w hB4w
  go_region_held3 (fun wx => Below W5.heap.size W5 wx ∧ wx.cell? ⟨qb, 0, none⟩ = some (.slice b1 n1 d1) ∧ wx.cell? ⟨qb, 1, none⟩ = some (.slice b2 n2 d2) ∧ wx.cell? ⟨qb, 2, none⟩ = some (.slice b3 n3 d3) ∧ wx.cell? ⟨fb, 0, none⟩ = some (.int .i64 ce) ∧ wx.cell? ⟨fb, 1, none⟩ = some (.int .i64 pe))
    ((go_split_ands; refine keep5u q0 q1 q2 f0 f1 ?_; repeat (with_reducible first | assumption | exact Below.refl _ _ | refine Below.drew ?_)))
    ((first
      | (go_at_call 28; refine (KC.out _ ?_).mono ?_; (go_split_ands; assumption); rintro e w6 ⟨v', rfl, hv6, hb6⟩; have HV6 : Hid (ErrV w6 a (checkE P) v') := hv6; clear hv6)
      | (go_at_call 27; refine (KV0.out _ _ hb6 HV6.out).mono ?_; rintro e w7 ⟨rfl, hb7⟩)))
  obtain ⟨rc, hrc⟩ : ∃ c, c = codeE (readD s).2 := ⟨_, rfl⟩
  obtain ⟨rp, hrp⟩ : ∃ c, c = placeE (readD s).2 := ⟨_, rfl⟩
  have HRC : Hid (rc = codeE (readD s).2 ∧ rp = placeE (readD s).2) := ⟨hrc, hrp⟩
  have KR : Hid (∀ wx, Below W5.heap.size W5 wx → Calls Tryz.prog 38 #[.string bs] wx fun e w' => ∃ v1 v2 v3 ev, e = .returned (.tuple #[.agg #[v1, v2, v3], ev]) ∧ IsProg w' v1 v2 v3 (readD s).1 ∧ ErrV w' a (readD s).2 ev ∧ Below W5.heap.size W5 w') := fun wx hb => by
    rw [HBS.out]
    refine (read_any readStmt_ok a s wx ⟨(HKN.out wx hb).2.2.1.five, (HKN.out wx hb).2.2.1.et⟩ (HKN.out wx hb).2.2.2.2.2.2.2.1).mono fun e w' ⟨u1, u2, u3, ev, h1, h2, h3, h4⟩ => ?_
    exact ⟨u1, u2, u3, ev, h1, h2, h3, hb.trans (h4.mono hb.size)⟩
  have KY : Hid (∀ wx, Calls Tryz.prog 39 #[.string bs] wx fun e w' => ∃ u1 u2 u3, e = .returned (.tuple #[.agg #[u1, u2, u3], .agg #[.int .i64 rc, .int .i64 rp]]) ∧ IsProg w' u1 u2 u3 (readD s).1 ∧ Below wx.heap.size wx w') := fun wx => by
    rw [HBS.out, hrc, hrp]; exact refRead_any s wx
  clear hrc hrp KC KV0 HV6 hb6 q0 q1 q2 f0 f1 hBW
  obtain ⟨q0, q1, q2⟩ := (HKN.out w7 hb7).2.2.2.1
  obtain ⟨p0, p1, p2⟩ := (HKN.out w7 hb7).2.2.2.2.1
  have f0 := (HKN.out w7 hb7).2.2.2.2.2.1
  cases hck : checkE P with
  | some er =>
    have hcn : (checkE P).isNone = false := by rw [hck]; rfl
    have hce : (0 : Int) < ce := by rw [HCE.out.1, hck]; show (0 : Int) < (er.1 : Int) + 1; omega
    have K1 : Hid (∀ wx, Below W5.heap.size W5 wx → Calls Tryz.prog 29 #[.agg #[.slice b1 n1 d1, .slice b2 n2 d2, .slice b3 n3 d3]] wx fun e w' => e = .returned (.string ⟨#[]⟩) ∧ Below W5.heap.size W5 w') := fun wx hb => (text_no a P _ _ _ wx HS.out (HKN.out wx hb).1 (HKN.out wx hb).2.2.1.five hcn).mono fun e w' ⟨h1, h2⟩ => ⟨h1, hb.trans (h2.mono hb.size)⟩
    have K2 : Hid (∀ wx, Below W5.heap.size W5 wx → Calls Tryz.prog 30 #[.agg #[.slice b1 n1 d1, .slice b2 n2 d2, .slice b3 n3 d3]] wx fun e w' => e = .returned (.int .i64 0) ∧ Below W5.heap.size W5 w') := fun wx hb => (nodes_any a P _ _ _ wx HS.out (HKN.out wx hb).1 (HKN.out wx hb).2.2.1.five).mono fun e w' ⟨h1, h2⟩ => ⟨by rw [h1]; unfold nodesD; rw [hcn]; rfl, hb.trans (h2.mono hb.size)⟩
    have K3 : Hid (∀ wx, Below W5.heap.size W5 wx → Calls Tryz.prog 31 #[.agg #[.slice b1 n1 d1, .slice b2 n2 d2, .slice b3 n3 d3]] wx fun e w' => e = .returned (.int .i64 0) ∧ Below W5.heap.size W5 w') := fun wx hb => (objects_any a P _ _ _ wx HS.out (HKN.out wx hb).1 (HKN.out wx hb).2.2.1.five).mono fun e w' ⟨h1, h2⟩ => ⟨by rw [h1]; unfold objD; rw [hcn]; rfl, hb.trans (h2.mono hb.size)⟩
    have K4 : Hid (∀ wx, Below W5.heap.size W5 wx → Calls Tryz.prog 32 #[.agg #[.slice b1 n1 d1, .slice b2 n2 d2, .slice b3 n3 d3], .int .i64 z] wx fun e w' => e = .returned (.int .i64 (-1)) ∧ Below W5.heap.size W5 w') := fun wx hb => (fun_any a P z _ _ _ wx HS.out (HKN.out wx hb).1 (HKN.out wx hb).2.2.1.five hz0 hz1).mono fun e w' ⟨h1, h2⟩ => ⟨by rw [h1]; unfold funD; rw [hcn]; rfl, hb.trans (h2.mono hb.size)⟩
    have K5 : Hid (∀ wx, Below W5.heap.size W5 wx → Calls Tryz.prog 33 #[.agg #[.slice b1 n1 d1, .slice b2 n2 d2, .slice b3 n3 d3], .int .i64 z] wx fun e w' => e = .returned (.int .i64 (-1)) ∧ Below W5.heap.size W5 w') := fun wx hb => (place_any a P z _ _ _ wx HS.out (HKN.out wx hb).1 (HKN.out wx hb).2.2.1.five).mono fun e w' ⟨h1, h2⟩ => ⟨by rw [h1]; unfold placeD; rw [hcn]; rfl, hb.trans (h2.mono hb.size)⟩
    clear hck hcn
    go_wp2_with fail
    refine (K1.out w7 hb7).mono ?_
    rintro e w8 ⟨rfl, hb8⟩
    clear q0 q1 q2 p0 p1 p2 f0 K1 hb7
    obtain ⟨q0, q1, q2⟩ := (HKN.out w8 hb8).2.2.2.1
    go_wp2_with fail
    refine (K2.out w8 hb8).mono ?_
    rintro e w9 ⟨rfl, hb9⟩
    clear q0 q1 q2 K2 hb8
    obtain ⟨q0, q1, q2⟩ := (HKN.out w9 hb9).2.2.2.1
    go_wp2_with fail
    refine (K3.out w9 hb9).mono ?_
    rintro e wA ⟨rfl, hbA⟩
    clear q0 q1 q2 K3 hb9
    obtain ⟨q0, q1, q2⟩ := (HKN.out wA hbA).2.2.2.1
    go_wp2_with fail
    refine (K4.out wA hbA).mono ?_
    rintro e wB ⟨rfl, hbB⟩
    clear q0 q1 q2 K4 hbA
    obtain ⟨q0, q1, q2⟩ := (HKN.out wB hbB).2.2.2.1
    go_wp2_with fail
    refine (K5.out wB hbB).mono ?_
    rintro e wt ⟨rfl, hbt⟩
    clear q0 q1 q2 K5 hbB
    go_wp2_with fail
    refine (KR.out wt hbt).mono ?_
    rintro e wa ⟨x1, x2, x3, ev, rfl, hx, hv, hba⟩
    have HXA : Hid (IsProg wa x1 x2 x3 (readD s).1 ∧ ErrV wa a (readD s).2 ev ∧ Below W5.heap.size W5 wa) := ⟨hx, hv, hba⟩
    obtain ⟨⟨xa, xc, rfl, -, -⟩, ⟨xb, xd, rfl, -, -⟩, ⟨xe, xf, rfl, -, -⟩⟩ := hx
    obtain ⟨l1, hl1⟩ : ∃ m, m = (readD s).1.vars.length := ⟨_, rfl⟩
    obtain ⟨l2, hl2⟩ : ∃ m, m = (readD s).1.funs.length := ⟨_, rfl⟩
    obtain ⟨l3, hl3⟩ : ∃ m, m = (readD s).1.stmts.length := ⟨_, rfl⟩
    rw [← hl1, ← hl2, ← hl3] at HXA ⊢
    have HLL : Hid (l1 = (readD s).1.vars.length ∧ l2 = (readD s).1.funs.length ∧ l3 = (readD s).1.stmts.length) := ⟨hl1, hl2, hl3⟩
    clear hv hba hl1 hl2 hl3 hbt
    go_upto_region 17 with fail
    obtain ⟨Wa, hWa⟩ : ∃ Wa, Wa = wa.alloc (.cells #[.slice xa l1 xc, .slice xb l2 xd, .slice xe l3 xf] 43) := ⟨_, rfl⟩
    have HBA : Hid (Below wa.heap.size wa Wa ∧ Box3 Wa wa.heap.size (.slice xa l1 xc) (.slice xb l2 xd) (.slice xe l3 xf)) := by
      rw [hWa]; exact ⟨below1 wa _, box3_new wa _ _ _ _⟩
    rw [← hWa]
    clear hWa
    go_wp2_with fail
    refine (KY.out Wa).mono ?_
    rintro e wb ⟨y1, y2, y3, rfl, hy, hbb⟩
    have HYB : Hid (IsProg wb y1 y2 y3 (readD s).1 ∧ Below Wa.heap.size Wa wb) := ⟨hy, hbb⟩
    obtain ⟨⟨ya, yc, rfl, -, -⟩, ⟨yb, yd, rfl, -, -⟩, ⟨ye, yf, rfl, -, -⟩⟩ := hy
    rw [← HLL.out.1, ← HLL.out.2.1, ← HLL.out.2.2] at HYB ⊢
    clear hbb
    go_upto_region 18 with fail
    obtain ⟨Wb, hWb⟩ : ∃ Wb, Wb = (wb.alloc (.cells #[.slice ya l1 yc, .slice yb l2 yd, .slice ye l3 yf] 43)).alloc (.cells #[.int .i64 rc, .int .i64 rp] 47) := ⟨_, rfl⟩
    have hBB : Below wb.heap.size wb Wb := by rw [hWb]; exact (below1 wb _).alloc (by simp) _
    have HYX : Hid (Box3 Wb wb.heap.size (.slice ya l1 yc) (.slice yb l2 yd) (.slice ye l3 yf)) := by
      show Box3 Wb _ _ _ _
      rw [hWb]; exact (box3_new wb _ _ _ _).below (below1 _ _)
    have g0 : Wb.cell? ⟨wb.heap.size + 1, 0, none⟩ = some (.int .i64 rc) := by rw [hWb]; simp
    have g1 : Wb.cell? ⟨wb.heap.size + 1, 1, none⟩ = some (.int .i64 rp) := by rw [hWb]; simp
    have hBab : Below wa.heap.size wa Wb := HBA.out.1.trans (((HYB.out.2).trans (hBB.mono HYB.out.2.size)).mono HBA.out.1.size)
    have HBb : Hid (Below wb.heap.size wb Wb ∧ Below wa.heap.size wa Wb ∧ Below Wa.heap.size Wa Wb ∧ Below w.heap.size w Wb) := ⟨hBB, hBab, HYB.out.2.trans (hBB.mono HYB.out.2.size), (HKN.out wa HXA.out.2.2).2.2.2.2.2.2.2.2.trans (hBab.mono (HKN.out wa HXA.out.2.2).2.2.2.2.2.2.2.2.size)⟩
    have KV : Hid (Calls Tryz.prog 27 #[ev, .agg #[.int .i64 rc, .int .i64 rp]] Wb fun r w' => r = .returned (.bool true) ∧ Below Wb.heap.size Wb w') := faulted_any a (readD s).2 ev rc rp Wb (((HKN.out wa HXA.out.2.2).2.2.1).below hBab) (HXA.out.2.1.below hBab) (readD_lt s) HRC.out.1 HRC.out.2
    obtain ⟨i0, i1, i2⟩ := HBA.out.2.below HBb.out.2.2.1
    obtain ⟨j0, j1, j2⟩ := HYX.out
    rw [← hWb]
    clear hWb hBB hBab
    go_wp2_with fail
    refine KV.out.mono ?_
    rintro e wd ⟨rfl, hbd⟩
    have i0' := cell_keep hbd i0
    have i1' := cell_keep hbd i1
    have i2' := cell_keep hbd i2
    have j0' := cell_keep hbd j0
    have j1' := cell_keep hbd j1
    have j2' := cell_keep hbd j2
    have KS : Hid (Calls Tryz.prog 40 #[.agg #[.slice xa l1 xc, .slice xb l2 xd, .slice xe l3 xf], .agg #[.slice ya l1 yc, .slice yb l2 yd, .slice ye l3 yf]] wd fun e w' => e = .returned (.bool true) ∧ Below wd.heap.size wd w') := sameProgram_true (readD s).1 _ _ _ _ _ _ wd (readD_small s) ((HXA.out.1.below HBb.out.2.1).below hbd) ((HYB.out.1.below HBb.out.1).below hbd)
    have HBd : Hid (Below w.heap.size w wd) := HBb.out.2.2.2.trans (hbd.mono HBb.out.2.2.2.size)
    clear KV hbd
    go_wp2_with fail
    refine KS.out.mono ?_
    rintro e we ⟨rfl, hbe⟩
    go_wp2_with fail
    go_ret
    exact ⟨rfl, HBd.out.trans (hbe.mono HBd.out.size)⟩
  | none =>
    have htr : true = (checkE P).isNone := by rw [hck]; rfl
    have hce : ce = 0 := by rw [HCE.out.1, hck]; rfl
    have HCK : Hid (checkE P = none ∧ true = (checkE P).isNone) := ⟨hck, htr⟩
    subst hce
    obtain ⟨N, hN⟩ : ∃ N, N = places P P.stmts.length := ⟨_, rfl⟩
    obtain ⟨bt, hbt0⟩ : ∃ b, b = S (textP P) := ⟨_, rfl⟩
    obtain ⟨zf, hzf⟩ : ∃ b, b = funD P z := ⟨_, rfl⟩
    obtain ⟨zp, hzp⟩ : ∃ b, b = placeD P z := ⟨_, rfl⟩
    have HNB : Hid (N ≤ 200000 ∧ n2 ≤ 100000) := by
      refine ⟨?_, by rw [HN.out.2.1]; exact HS.out.2.1⟩
      rw [hN]; unfold places
      have h1 := HS.out.1
      have h2 := HS.out.2.2.1
      have h3 := List.length_filter_le (fun t : StmtD => t.kind == kNew) (P.stmts.take P.stmts.length)
      rw [List.take_length] at h3 ⊢
      omega
    have K1 : Hid (Calls Tryz.prog 34 #[.agg #[.slice a1 n1 c1, .slice a2 n2 c2, .slice a3 n3 c3]] w7 fun e w' => e = .returned (.int .i64 (N : Int)) ∧ Below w7.heap.size w7 w') := by
      rw [hN]; exact refNodes_any P _ _ _ w7 HS.out (HKN.out w7 hb7).2.1
    have R1 : Hid (∀ wq, Below W5.heap.size W5 wq → ∀ d os, Calls Tryz.prog 29 #[.agg #[.slice b1 n1 d1, .slice b2 n2 d2, .slice b3 n3 d3]] (Go.Sort.grow (redrawn wq d) os) fun e w'' => e = .returned (.string bt) ∧ ∃ p : Regrown, w'' = Go.Sort.grow (redrawn wq p.d) p.os) := fun wq hB d os => Calls.regrown_of (by
      have hb := hB.trans ((below_regrown wq d os).mono hB.size)
      rw [hbt0]; exact text_right a P _ _ _ _ HS.out (HKN.out _ hb).1 (HKN.out _ hb).2.2.1.five HCK.out.1)
    have R2 : Hid (∀ wq, Below W5.heap.size W5 wq → ∀ d os, Calls Tryz.prog 35 #[.agg #[.slice a1 n1 c1, .slice a2 n2 c2, .slice a3 n3 c3]] (Go.Sort.grow (redrawn wq d) os) fun e w'' => e = .returned (.string bt) ∧ ∃ p : Regrown, w'' = Go.Sort.grow (redrawn wq p.d) p.os) := fun wq hB d os => Calls.regrown_of (by
      have hb := hB.trans ((below_regrown wq d os).mono hB.size)
      rw [hbt0]; exact refText_any P _ _ _ _ HS.out HCK.out.1 (HKN.out _ hb).2.1)
    have R3 : Hid (∀ wq, Below W5.heap.size W5 wq → ∀ d os, Calls Tryz.prog 30 #[.agg #[.slice b1 n1 d1, .slice b2 n2 d2, .slice b3 n3 d3]] (Go.Sort.grow (redrawn wq d) os) fun e w'' => e = .returned (.int .i64 (N : Int)) ∧ ∃ p : Regrown, w'' = Go.Sort.grow (redrawn wq p.d) p.os) := fun wq hB d os => Calls.regrown_of (by
      have hb := hB.trans ((below_regrown wq d os).mono hB.size)
      have := nodes_any a P _ _ _ (Go.Sort.grow (redrawn wq d) os) HS.out (HKN.out _ hb).1 (HKN.out _ hb).2.2.1.five
      rw [show nodesD P = (N : Int) by unfold nodesD; rw [← HCK.out.2, if_pos rfl, hN]] at this
      exact this)
    have R4 : Hid (∀ wq, Below W5.heap.size W5 wq → ∀ d os, Calls Tryz.prog 31 #[.agg #[.slice b1 n1 d1, .slice b2 n2 d2, .slice b3 n3 d3]] (Go.Sort.grow (redrawn wq d) os) fun e w'' => e = .returned (.int .i64 ((N : Int) + (n2 : Int))) ∧ ∃ p : Regrown, w'' = Go.Sort.grow (redrawn wq p.d) p.os) := fun wq hB d os => Calls.regrown_of (by
      have hb := hB.trans ((below_regrown wq d os).mono hB.size)
      have := objects_any a P _ _ _ (Go.Sort.grow (redrawn wq d) os) HS.out (HKN.out _ hb).1 (HKN.out _ hb).2.2.1.five
      rw [objD_in HCK.out.2, ← hN, ← HN.out.2.1] at this
      exact this)
    have R5 : Hid (∀ wq, Below W5.heap.size W5 wq → ∀ d os, Calls Tryz.prog 32 #[.agg #[.slice b1 n1 d1, .slice b2 n2 d2, .slice b3 n3 d3], .int .i64 z] (Go.Sort.grow (redrawn wq d) os) fun e w'' => e = .returned (.int .i64 zf) ∧ ∃ p : Regrown, w'' = Go.Sort.grow (redrawn wq p.d) p.os) := fun wq hB d os => Calls.regrown_of (by
      have hb := hB.trans ((below_regrown wq d os).mono hB.size)
      rw [hzf]; exact fun_any a P z _ _ _ _ HS.out (HKN.out _ hb).1 (HKN.out _ hb).2.2.1.five hz0 hz1)
    have R6 : Hid (∀ wq, Below W5.heap.size W5 wq → ∀ d os, Calls Tryz.prog 36 #[.agg #[.slice a1 n1 c1, .slice a2 n2 c2, .slice a3 n3 c3], .int .i64 z] (Go.Sort.grow (redrawn wq d) os) fun e w'' => e = .returned (.int .i64 zf) ∧ ∃ p : Regrown, w'' = Go.Sort.grow (redrawn wq p.d) p.os) := fun wq hB d os => Calls.regrown_of (by
      have hb := hB.trans ((below_regrown wq d os).mono hB.size)
      rw [hzf]; exact refFun_any P z _ _ _ _ HS.out (HKN.out _ hb).2.1 HCK.out.1 hz0 hz1)
    have R7 : Hid (∀ wq, Below W5.heap.size W5 wq → ∀ d os, Calls Tryz.prog 33 #[.agg #[.slice b1 n1 d1, .slice b2 n2 d2, .slice b3 n3 d3], .int .i64 z] (Go.Sort.grow (redrawn wq d) os) fun e w'' => e = .returned (.int .i64 zp) ∧ ∃ p : Regrown, w'' = Go.Sort.grow (redrawn wq p.d) p.os) := fun wq hB d os => Calls.regrown_of (by
      have hb := hB.trans ((below_regrown wq d os).mono hB.size)
      rw [hzp]; exact place_any a P z _ _ _ _ HS.out (HKN.out _ hb).1 (HKN.out _ hb).2.2.1.five)
    have R8 : Hid (∀ wq, Below W5.heap.size W5 wq → ∀ d os, Calls Tryz.prog 37 #[.agg #[.slice a1 n1 c1, .slice a2 n2 c2, .slice a3 n3 c3], .int .i64 z] (Go.Sort.grow (redrawn wq d) os) fun e w'' => e = .returned (.int .i64 zp) ∧ ∃ p : Regrown, w'' = Go.Sort.grow (redrawn wq p.d) p.os) := fun wq hB d os => Calls.regrown_of (by
      have hb := hB.trans ((below_regrown wq d os).mono hB.size)
      rw [hzp]; exact refPlace_any P z _ _ _ _ HS.out (HKN.out _ hb).2.1 HCK.out.1)
    clear hck htr hN hbt0 hzf hzp
    go_wp2_with fail
    refine K1.out.mono ?_
    rintro e wq ⟨rfl, hbq'⟩
    have hbq : Below W5.heap.size W5 wq := hb7.trans (hbq'.mono hb7.size)
    clear q0 q1 q2 p0 p1 p2 f0 K1 hb7 hbq'
    go_upto_region 12 with fail
    obtain ⟨q0, q1, q2⟩ := (HKN.out wq hbq).2.2.2.1
    obtain ⟨p0, p1, p2⟩ := (HKN.out wq hbq).2.2.2.2.1
    have Q0 := cell_regrown q0
    have Q1 := cell_regrown q1
    have Q2 := cell_regrown q2
    have P0 := cell_regrown p0
    have P1 := cell_regrown p1
    have P2 := cell_regrown p2
    have HBq : Hid (Below W5.heap.size W5 wq) := hbq
    have hNB := HNB.out
    obtain ⟨hNB1, hNB2⟩ := hNB
    clear q0 q1 q2 p0 p1 p2 hbq
    refine wp_region_quiet_below (by kernel_rfl) (by kernel_rfl) ?_
    repeat (quiet_step (first | exact R1.out _ HBq.out _ _ | exact R2.out _ HBq.out _ _ | exact R3.out _ HBq.out _ _ | exact R4.out _ HBq.out _ _))
    refine wpQuiet_nil ?_
    intro _ hw'
    obtain ⟨⟨dq, osq⟩, hw''⟩ := hw'
    subst hw''
    have hbf : Below W5.heap.size W5 (Go.Sort.grow (redrawn wq dq) osq) := HBq.out.trans ((below_regrown wq dq osq).mono HBq.out.size)
    obtain ⟨wf, hwf⟩ : ∃ wf, wf = Go.Sort.grow (redrawn wq dq) osq := ⟨_, rfl⟩
    rw [← hwf] at hbf ⊢
    clear R1 R2 R3 R4 Q0 Q1 Q2 P0 P1 P2 hwf HBq
    have hwr : ((N : Int) + (n2 : Int) != IntKind.i64.wrap ((N : Int) + (n2 : Int))) = false := by
      have : IntKind.i64.wrap ((N : Int) + (n2 : Int)) = (N : Int) + (n2 : Int) := by rw [IntKind.wrap_i64]; omega
      rw [this]; simp
    try simp only [hwr]
    clear hwr
    go_upto_region 14 with fail
    obtain ⟨q0, q1, q2⟩ := (HKN.out wf hbf).2.2.2.1
    obtain ⟨p0, p1, p2⟩ := (HKN.out wf hbf).2.2.2.2.1
    have Q0 := cell_regrown q0
    have Q1 := cell_regrown q1
    have Q2 := cell_regrown q2
    have P0 := cell_regrown p0
    have P1 := cell_regrown p1
    have P2 := cell_regrown p2
    have HBf : Hid (Below W5.heap.size W5 wf) := hbf
    clear q0 q1 q2 p0 p1 p2 hbf
    refine wp_region_quiet_below (by kernel_rfl) (by kernel_rfl) ?_
    repeat (quiet_step (first | exact R5.out _ HBf.out _ _ | exact R6.out _ HBf.out _ _ | exact R7.out _ HBf.out _ _ | exact R8.out _ HBf.out _ _))
    refine wpQuiet_nil ?_
    intro _ hw'
    obtain ⟨⟨dq2, osq2⟩, hw''⟩ := hw'
    subst hw''
    have hbt : Below W5.heap.size W5 (Go.Sort.grow (redrawn wf dq2) osq2) := HBf.out.trans ((below_regrown wf dq2 osq2).mono HBf.out.size)
    obtain ⟨wt, hwt⟩ : ∃ wt, wt = Go.Sort.grow (redrawn wf dq2) osq2 := ⟨_, rfl⟩
    rw [← hwt] at hbt ⊢
    clear R5 R6 R7 R8 Q0 Q1 Q2 P0 P1 P2 hwt HBf
    go_wp2_with fail
    refine (KR.out wt hbt).mono ?_
    rintro e wa ⟨x1, x2, x3, ev, rfl, hx, hv, hba⟩
    have HXA : Hid (IsProg wa x1 x2 x3 (readD s).1 ∧ ErrV wa a (readD s).2 ev ∧ Below W5.heap.size W5 wa) := ⟨hx, hv, hba⟩
    obtain ⟨⟨xa, xc, rfl, -, -⟩, ⟨xb, xd, rfl, -, -⟩, ⟨xe, xf, rfl, -, -⟩⟩ := hx
    obtain ⟨l1, hl1⟩ : ∃ m, m = (readD s).1.vars.length := ⟨_, rfl⟩
    obtain ⟨l2, hl2⟩ : ∃ m, m = (readD s).1.funs.length := ⟨_, rfl⟩
    obtain ⟨l3, hl3⟩ : ∃ m, m = (readD s).1.stmts.length := ⟨_, rfl⟩
    rw [← hl1, ← hl2, ← hl3] at HXA ⊢
    have HLL : Hid (l1 = (readD s).1.vars.length ∧ l2 = (readD s).1.funs.length ∧ l3 = (readD s).1.stmts.length) := ⟨hl1, hl2, hl3⟩
    clear hv hba hl1 hl2 hl3 hbt
    go_upto_region 17 with fail
    obtain ⟨Wa, hWa⟩ : ∃ Wa, Wa = wa.alloc (.cells #[.slice xa l1 xc, .slice xb l2 xd, .slice xe l3 xf] 43) := ⟨_, rfl⟩
    have HBA : Hid (Below wa.heap.size wa Wa ∧ Box3 Wa wa.heap.size (.slice xa l1 xc) (.slice xb l2 xd) (.slice xe l3 xf)) := by
      rw [hWa]; exact ⟨below1 wa _, box3_new wa _ _ _ _⟩
    rw [← hWa]
    clear hWa
    go_wp2_with fail
    refine (KY.out Wa).mono ?_
    rintro e wb ⟨y1, y2, y3, rfl, hy, hbb⟩
    have HYB : Hid (IsProg wb y1 y2 y3 (readD s).1 ∧ Below Wa.heap.size Wa wb) := ⟨hy, hbb⟩
    obtain ⟨⟨ya, yc, rfl, -, -⟩, ⟨yb, yd, rfl, -, -⟩, ⟨ye, yf, rfl, -, -⟩⟩ := hy
    rw [← HLL.out.1, ← HLL.out.2.1, ← HLL.out.2.2] at HYB ⊢
    clear hbb
    go_upto_region 18 with fail
    obtain ⟨Wb, hWb⟩ : ∃ Wb, Wb = (wb.alloc (.cells #[.slice ya l1 yc, .slice yb l2 yd, .slice ye l3 yf] 43)).alloc (.cells #[.int .i64 rc, .int .i64 rp] 47) := ⟨_, rfl⟩
    have hBB : Below wb.heap.size wb Wb := by rw [hWb]; exact (below1 wb _).alloc (by simp) _
    have HYX : Hid (Box3 Wb wb.heap.size (.slice ya l1 yc) (.slice yb l2 yd) (.slice ye l3 yf)) := by
      show Box3 Wb _ _ _ _
      rw [hWb]; exact (box3_new wb _ _ _ _).below (below1 _ _)
    have g0 : Wb.cell? ⟨wb.heap.size + 1, 0, none⟩ = some (.int .i64 rc) := by rw [hWb]; simp
    have g1 : Wb.cell? ⟨wb.heap.size + 1, 1, none⟩ = some (.int .i64 rp) := by rw [hWb]; simp
    have hBab : Below wa.heap.size wa Wb := HBA.out.1.trans (((HYB.out.2).trans (hBB.mono HYB.out.2.size)).mono HBA.out.1.size)
    have HBb : Hid (Below wb.heap.size wb Wb ∧ Below wa.heap.size wa Wb ∧ Below Wa.heap.size Wa Wb ∧ Below w.heap.size w Wb) := ⟨hBB, hBab, HYB.out.2.trans (hBB.mono HYB.out.2.size), (HKN.out wa HXA.out.2.2).2.2.2.2.2.2.2.2.trans (hBab.mono (HKN.out wa HXA.out.2.2).2.2.2.2.2.2.2.2.size)⟩
    have KV : Hid (Calls Tryz.prog 27 #[ev, .agg #[.int .i64 rc, .int .i64 rp]] Wb fun r w' => r = .returned (.bool true) ∧ Below Wb.heap.size Wb w') := faulted_any a (readD s).2 ev rc rp Wb (((HKN.out wa HXA.out.2.2).2.2.1).below hBab) (HXA.out.2.1.below hBab) (readD_lt s) HRC.out.1 HRC.out.2
    obtain ⟨i0, i1, i2⟩ := HBA.out.2.below HBb.out.2.2.1
    obtain ⟨j0, j1, j2⟩ := HYX.out
    rw [← hWb]
    clear hWb hBB hBab
    go_wp2_with fail
    refine KV.out.mono ?_
    rintro e wd ⟨rfl, hbd⟩
    have i0' := cell_keep hbd i0
    have i1' := cell_keep hbd i1
    have i2' := cell_keep hbd i2
    have j0' := cell_keep hbd j0
    have j1' := cell_keep hbd j1
    have j2' := cell_keep hbd j2
    have KS : Hid (Calls Tryz.prog 40 #[.agg #[.slice xa l1 xc, .slice xb l2 xd, .slice xe l3 xf], .agg #[.slice ya l1 yc, .slice yb l2 yd, .slice ye l3 yf]] wd fun e w' => e = .returned (.bool true) ∧ Below wd.heap.size wd w') := sameProgram_true (readD s).1 _ _ _ _ _ _ wd (readD_small s) ((HXA.out.1.below HBb.out.2.1).below hbd) ((HYB.out.1.below HBb.out.1).below hbd)
    have HBd : Hid (Below w.heap.size w wd) := HBb.out.2.2.2.trans (hbd.mono HBb.out.2.2.2.size)
    clear KV hbd
    go_wp2_with fail
    refine KS.out.mono ?_
    rintro e we ⟨rfl, hbe⟩
    go_wp2_with fail
    go_ret
    exact ⟨rfl, HBd.out.trans (hbe.mono HBd.out.size)⟩
end Go.Proofs.YtakmmpbkojhmhaaGreatDoor

/-
  ProgTells answers true: texts of 4001 bytes.
-/
namespace Go.Proofs.YtakmmpbkojhmhaaGreatDoor
open Go.RowKit Go.Extern.Stop Go.Stop Go.Extern

set_option maxRecDepth 100000 in
set_option maxHeartbeats 8000000 in
theorem tells_over (a : Nat → Addr) (P : ProgD) (v1 v2 v3 : Value) (s : Bs) (z : Int) (w : World) (h : IsProg w v1 v2 v3 P) (hE : Errs w a) (hM : MaxL w) (hz0 : -9223372036854775808 ≤ z) (hz1 : z ≤ 9223372036854775807) (hl : s.length = 4001) :
    Calls Tryz.prog 4 #[.agg #[v1, v2, v3], .string (S s), .int .i64 z] w fun e w' => e = .returned (.bool true) ∧ Below w.heap.size w w' := by
  have H : Hid (IsProg w v1 v2 v3 P) := h
  have HE : Hid (Errs w a) := hE
  have HM : Hid (MaxL w) := hM
  obtain ⟨⟨a1, c1, rfl, -, -⟩, ⟨a2, c2, rfl, -, -⟩, ⟨a3, c3, rfl, -, -⟩⟩ := h
  obtain ⟨n1, hn1⟩ : ∃ m, m = P.vars.length := ⟨_, rfl⟩
  obtain ⟨n2, hn2⟩ : ∃ m, m = P.funs.length := ⟨_, rfl⟩
  obtain ⟨n3, hn3⟩ : ∃ m, m = P.stmts.length := ⟨_, rfl⟩
  have HN : Hid (n1 = P.vars.length ∧ n2 = P.funs.length ∧ n3 = P.stmts.length) := ⟨hn1, hn2, hn3⟩
  rw [← hn1, ← hn2, ← hn3] at H ⊢
  clear hn1 hn2 hn3 hE hM
  obtain ⟨W, hW⟩ : ∃ W, W = w.alloc (.cells #[.slice a1 n1 c1, .slice a2 n2 c2, .slice a3 n3 c3] 43) := ⟨_, rfl⟩
  have hBW : Below w.heap.size w W := by rw [hW]; exact below1 w _
  have HBX : Hid (Box3 W w.heap.size (.slice a1 n1 c1) (.slice a2 n2 c2) (.slice a3 n3 c3)) := by
    show Box3 W _ _ _ _
    rw [hW]; exact box3_new w _ _ _ _
  have K1 : Hid (Calls Tryz.prog 23 #[] W fun e w' => e = .returned (.bool true) ∧ Below W.heap.size W w') := programmed_any a W (HE.out.five.below hBW)
  rw [hW] at K1
  obtain ⟨bs, hbs⟩ : ∃ b, b = S s := ⟨_, rfl⟩
  have HBS : Hid (bs = S s) := hbs
  have g1 : (1500 : Int) < bs.size := by rw [hbs, S_size]; omega
  have g2 : ((bs.size : Int) != 4001) = false := by
    have : bs.size = 4001 := by rw [hbs, S_size]; exact hl
    simp; omega
  clear hl
  rw [← hbs]
  clear hbs
  go_enter Tryz.func4, Tryz.ntmps4
  go_wp2_with fail
  refine K1.out.mono ?_
  rintro e w1 ⟨rfl, hB1⟩
  rw [← hW] at hB1
  clear K1 hW
  obtain ⟨p0, p1, p2⟩ := HBX.out.below hB1
  have hB1w : Below w.heap.size w w1 := hBW.trans (hB1.mono hBW.size)
  go_wp2_with fail
  refine (large_any P _ _ _ w1 (H.out.below hB1w)).mono ?_
  rintro e w2 ⟨r, rfl, hr, hB2⟩
  have hB2w : Below w.heap.size w w2 := hB1w.trans (hB2.mono hB1w.size)
  rcases hr with rfl | ⟨rfl, hs, hsn⟩
  · go_wp2_with fail
    go_ret
    exact ⟨rfl, hB2w⟩
  have HS : Hid (SmallP P) := hs
  have HSN : Hid (SmallN P) := hsn
  clear hsn
  have X2 : Hid (Box3 w2 w.heap.size (.slice a1 n1 c1) (.slice a2 n2 c2) (.slice a3 n3 c3)) := (HBX.out.below hB1).below hB2
  clear p0 p1 p2 hs hB1 hB1w hB2
  obtain ⟨p0, p1, p2⟩ := X2.out
  go_wp2_with fail
  refine (ownProgram_any P _ _ _ w2 HS.out (H.out.below hB2w)).mono ?_
  rintro e w3 ⟨u1, u2, u3, rfl, hq, hB3⟩
  have hB3w : Below w.heap.size w w3 := hB2w.trans (hB3.mono hB2w.size)
  have X3 : Hid (Box3 w3 w.heap.size (.slice a1 n1 c1) (.slice a2 n2 c2) (.slice a3 n3 c3)) := X2.out.below hB3
  have HQ3 : Hid (IsProg w3 u1 u2 u3 P) := hq
  obtain ⟨⟨b1, d1, rfl, -, -⟩, ⟨b2, d2, rfl, -, -⟩, ⟨b3, d3, rfl, -, -⟩⟩ := hq
  rw [← HN.out.1, ← HN.out.2.1, ← HN.out.2.2] at HQ3
  rw [← HN.out.1, ← HN.out.2.1, ← HN.out.2.2]
  obtain ⟨W4, hW4⟩ : ∃ W, W = w3.alloc (.cells #[.slice b1 n1 d1, .slice b2 n2 d2, .slice b3 n3 d3] 43) := ⟨_, rfl⟩
  obtain ⟨qb, hqb⟩ : ∃ b, b = w3.heap.size := ⟨_, rfl⟩
  have hB4 : Below w3.heap.size w3 W4 := by rw [hW4]; exact below1 w3 _
  have hB4w : Below w.heap.size w W4 := hB3w.trans (hB4.mono hB3w.size)
  have XP : Hid (Box3 W4 w.heap.size (.slice a1 n1 c1) (.slice a2 n2 c2) (.slice a3 n3 c3)) := X3.out.below hB4
  have XQ : Hid (Box3 W4 qb (.slice b1 n1 d1) (.slice b2 n2 d2) (.slice b3 n3 d3)) := by
    show Box3 W4 _ _ _ _
    rw [hW4, hqb]; exact box3_new w3 _ _ _ _
  have HQ : Hid (IsProg W4 (.slice b1 n1 d1) (.slice b2 n2 d2) (.slice b3 n3 d3) P) := HQ3.out.below hB4
  obtain ⟨ce, hce⟩ : ∃ c, c = codeE (checkE P) := ⟨_, rfl⟩
  obtain ⟨pe, hpe⟩ : ∃ c, c = placeE (checkE P) := ⟨_, rfl⟩
  have K5 : Hid (Calls Tryz.prog 26 #[.agg #[.slice a1 n1 c1, .slice a2 n2 c2, .slice a3 n3 c3]] W4 fun e w' => e = .returned (.agg #[.int .i64 ce, .int .i64 pe]) ∧ Below W4.heap.size W4 w') := by
    rw [hce, hpe]; exact refFault_any P _ _ _ W4 HS.out HSN.out (H.out.below hB4w)
  have HCE : Hid (ce = codeE (checkE P) ∧ pe = placeE (checkE P)) := ⟨hce, hpe⟩
  clear p0 p1 p2 X2 X3 HQ3 hB3w hB3 hB2w hB4 hce hpe g1 g2
  obtain ⟨p0, p1, p2⟩ := XP.out
  rw [hW4] at K5 p0 p1 p2
  go_wp2_with fail
  refine K5.out.mono ?_
  rintro e w5 ⟨rfl, hB5⟩
  rw [← hW4] at hB5
  rw [← hqb]
  clear K5 hW4 hqb p0 p1 p2
  go_upto_region 6 with fail
  obtain ⟨W5, hW5⟩ : ∃ W5, W5 = w5.alloc (.cells #[.int .i64 ce, .int .i64 pe] 47) := ⟨_, rfl⟩
  obtain ⟨fb, hfb⟩ : ∃ b, b = w5.heap.size := ⟨_, rfl⟩
  have hB45 : Below W4.heap.size W4 W5 := by rw [hW5]; exact hB5.alloc hB5.size _
  have hB5w : Below w.heap.size w W5 := hB4w.trans (hB45.mono hB4w.size)
  have f0 : W5.cell? ⟨fb, 0, none⟩ = some (.int .i64 ce) := by rw [hW5, hfb]; simp
  have f1 : W5.cell? ⟨fb, 1, none⟩ = some (.int .i64 pe) := by rw [hW5, hfb]; simp
  rw [← hW5, ← hfb]
  clear hW5 hfb hB5
  have HKN : Hid (∀ wx, Below W5.heap.size W5 wx → IsProg wx (.slice b1 n1 d1) (.slice b2 n2 d2) (.slice b3 n3 d3) P ∧ IsProg wx (.slice a1 n1 c1) (.slice a2 n2 c2) (.slice a3 n3 c3) P ∧ Errs wx a ∧ Box3 wx qb (.slice b1 n1 d1) (.slice b2 n2 d2) (.slice b3 n3 d3) ∧ Box3 wx w.heap.size (.slice a1 n1 c1) (.slice a2 n2 c2) (.slice a3 n3 c3) ∧ wx.cell? ⟨fb, 0, none⟩ = some (.int .i64 ce) ∧ wx.cell? ⟨fb, 1, none⟩ = some (.int .i64 pe) ∧ MaxL wx ∧ Below w.heap.size w wx) := fun wx hb =>
    ⟨(HQ.out.below hB45).below hb, (H.out.below hB5w).below hb, (HE.out.below hB5w).below hb, (XQ.out.below hB45).below hb, (XP.out.below hB45).below hb, cell_keep hb f0, cell_keep hb f1, (HM.out.below hB5w).below hb, hB5w.trans (hb.mono hB5w.size)⟩
  obtain ⟨q0, q1, q2⟩ := (HKN.out W5 (Below.refl _ _)).2.2.2.1
  have KC : Hid (∀ wx, Below W5.heap.size W5 wx → Calls Tryz.prog 28 #[.agg #[.slice b1 n1 d1, .slice b2 n2 d2, .slice b3 n3 d3]] wx fun e w' => ∃ v', e = .returned v' ∧ ErrV w' a (checkE P) v' ∧ Below W5.heap.size W5 w') := fun wx hb => by
    refine (check_any a P _ _ _ wx HS.out (HKN.out wx hb).1 (HKN.out wx hb).2.2.1.five).mono fun e w' ⟨v', h1, h2, h3⟩ => ?_
    exact ⟨v', h1, h2, hb.trans (h3.mono hb.size)⟩
  have KV0 : Hid (∀ wx v, Below W5.heap.size W5 wx → ErrV wx a (checkE P) v → Calls Tryz.prog 27 #[v, .agg #[.int .i64 ce, .int .i64 pe]] wx fun r w' => r = .returned (.bool true) ∧ Below W5.heap.size W5 w') := fun wx v hb hv => by
    refine (faulted_any a (checkE P) v ce pe wx (HKN.out wx hb).2.2.1 hv (fun x hx => checkE_lt hx) HCE.out.1 HCE.out.2).mono fun e w' ⟨h1, h2⟩ => ?_
    exact ⟨h1, hb.trans (h2.mono hb.size)⟩
  clear hB45 hB5w hB4w
  go_region_held3 (fun wx => Below W5.heap.size W5 wx ∧ wx.cell? ⟨qb, 0, none⟩ = some (.slice b1 n1 d1) ∧ wx.cell? ⟨qb, 1, none⟩ = some (.slice b2 n2 d2) ∧ wx.cell? ⟨qb, 2, none⟩ = some (.slice b3 n3 d3) ∧ wx.cell? ⟨fb, 0, none⟩ = some (.int .i64 ce) ∧ wx.cell? ⟨fb, 1, none⟩ = some (.int .i64 pe))
    ((go_split_ands; refine keep5u q0 q1 q2 f0 f1 ?_; repeat (with_reducible first | assumption | exact Below.refl _ _ | refine Below.drew ?_)))
    ((first
      | (go_at_call 28; refine (KC.out _ ?_).mono ?_; (go_split_ands; assumption); rintro e w6 ⟨v', rfl, hv6, hb6⟩; have HV6 : Hid (ErrV w6 a (checkE P) v') := hv6; clear hv6)
      | (go_at_call 27; refine (KV0.out _ _ hb6 HV6.out).mono ?_; rintro e w7 ⟨rfl, hb7⟩)))
  obtain ⟨rc, hrc⟩ : ∃ c, c = codeE (readD s).2 := ⟨_, rfl⟩
  obtain ⟨rp, hrp⟩ : ∃ c, c = placeE (readD s).2 := ⟨_, rfl⟩
  have HRC : Hid (rc = codeE (readD s).2 ∧ rp = placeE (readD s).2) := ⟨hrc, hrp⟩
  have KR : Hid (∀ wx, Below W5.heap.size W5 wx → Calls Tryz.prog 38 #[.string bs] wx fun e w' => ∃ v1 v2 v3 ev, e = .returned (.tuple #[.agg #[v1, v2, v3], ev]) ∧ IsProg w' v1 v2 v3 (readD s).1 ∧ ErrV w' a (readD s).2 ev ∧ Below W5.heap.size W5 w') := fun wx hb => by
    rw [HBS.out]
    refine (read_any readStmt_ok a s wx ⟨(HKN.out wx hb).2.2.1.five, (HKN.out wx hb).2.2.1.et⟩ (HKN.out wx hb).2.2.2.2.2.2.2.1).mono fun e w' ⟨u1, u2, u3, ev, h1, h2, h3, h4⟩ => ?_
    exact ⟨u1, u2, u3, ev, h1, h2, h3, hb.trans (h4.mono hb.size)⟩
  have KY : Hid (∀ wx, Calls Tryz.prog 39 #[.string bs] wx fun e w' => ∃ u1 u2 u3, e = .returned (.tuple #[.agg #[u1, u2, u3], .agg #[.int .i64 rc, .int .i64 rp]]) ∧ IsProg w' u1 u2 u3 (readD s).1 ∧ Below wx.heap.size wx w') := fun wx => by
    rw [HBS.out, hrc, hrp]; exact refRead_any s wx
  clear hrc hrp KC KV0 HV6 hb6 q0 q1 q2 f0 f1 hBW
  obtain ⟨q0, q1, q2⟩ := (HKN.out w7 hb7).2.2.2.1
  obtain ⟨p0, p1, p2⟩ := (HKN.out w7 hb7).2.2.2.2.1
  have f0 := (HKN.out w7 hb7).2.2.2.2.2.1
  cases hck : checkE P with
  | some er =>
    have hcn : (checkE P).isNone = false := by rw [hck]; rfl
    have hce : (0 : Int) < ce := by rw [HCE.out.1, hck]; show (0 : Int) < (er.1 : Int) + 1; omega
    have K1 : Hid (∀ wx, Below W5.heap.size W5 wx → Calls Tryz.prog 29 #[.agg #[.slice b1 n1 d1, .slice b2 n2 d2, .slice b3 n3 d3]] wx fun e w' => e = .returned (.string ⟨#[]⟩) ∧ Below W5.heap.size W5 w') := fun wx hb => (text_no a P _ _ _ wx HS.out (HKN.out wx hb).1 (HKN.out wx hb).2.2.1.five hcn).mono fun e w' ⟨h1, h2⟩ => ⟨h1, hb.trans (h2.mono hb.size)⟩
    have K2 : Hid (∀ wx, Below W5.heap.size W5 wx → Calls Tryz.prog 30 #[.agg #[.slice b1 n1 d1, .slice b2 n2 d2, .slice b3 n3 d3]] wx fun e w' => e = .returned (.int .i64 0) ∧ Below W5.heap.size W5 w') := fun wx hb => (nodes_any a P _ _ _ wx HS.out (HKN.out wx hb).1 (HKN.out wx hb).2.2.1.five).mono fun e w' ⟨h1, h2⟩ => ⟨by rw [h1]; unfold nodesD; rw [hcn]; rfl, hb.trans (h2.mono hb.size)⟩
    have K3 : Hid (∀ wx, Below W5.heap.size W5 wx → Calls Tryz.prog 31 #[.agg #[.slice b1 n1 d1, .slice b2 n2 d2, .slice b3 n3 d3]] wx fun e w' => e = .returned (.int .i64 0) ∧ Below W5.heap.size W5 w') := fun wx hb => (objects_any a P _ _ _ wx HS.out (HKN.out wx hb).1 (HKN.out wx hb).2.2.1.five).mono fun e w' ⟨h1, h2⟩ => ⟨by rw [h1]; unfold objD; rw [hcn]; rfl, hb.trans (h2.mono hb.size)⟩
    have K4 : Hid (∀ wx, Below W5.heap.size W5 wx → Calls Tryz.prog 32 #[.agg #[.slice b1 n1 d1, .slice b2 n2 d2, .slice b3 n3 d3], .int .i64 z] wx fun e w' => e = .returned (.int .i64 (-1)) ∧ Below W5.heap.size W5 w') := fun wx hb => (fun_any a P z _ _ _ wx HS.out (HKN.out wx hb).1 (HKN.out wx hb).2.2.1.five hz0 hz1).mono fun e w' ⟨h1, h2⟩ => ⟨by rw [h1]; unfold funD; rw [hcn]; rfl, hb.trans (h2.mono hb.size)⟩
    have K5 : Hid (∀ wx, Below W5.heap.size W5 wx → Calls Tryz.prog 33 #[.agg #[.slice b1 n1 d1, .slice b2 n2 d2, .slice b3 n3 d3], .int .i64 z] wx fun e w' => e = .returned (.int .i64 (-1)) ∧ Below W5.heap.size W5 w') := fun wx hb => (place_any a P z _ _ _ wx HS.out (HKN.out wx hb).1 (HKN.out wx hb).2.2.1.five).mono fun e w' ⟨h1, h2⟩ => ⟨by rw [h1]; unfold placeD; rw [hcn]; rfl, hb.trans (h2.mono hb.size)⟩
    clear hck hcn
    go_wp2_with fail
    refine (K1.out w7 hb7).mono ?_
    rintro e w8 ⟨rfl, hb8⟩
    clear q0 q1 q2 p0 p1 p2 f0 K1 hb7
    obtain ⟨q0, q1, q2⟩ := (HKN.out w8 hb8).2.2.2.1
    go_wp2_with fail
    refine (K2.out w8 hb8).mono ?_
    rintro e w9 ⟨rfl, hb9⟩
    clear q0 q1 q2 K2 hb8
    obtain ⟨q0, q1, q2⟩ := (HKN.out w9 hb9).2.2.2.1
    go_wp2_with fail
    refine (K3.out w9 hb9).mono ?_
    rintro e wA ⟨rfl, hbA⟩
    clear q0 q1 q2 K3 hb9
    obtain ⟨q0, q1, q2⟩ := (HKN.out wA hbA).2.2.2.1
    go_wp2_with fail
    refine (K4.out wA hbA).mono ?_
    rintro e wB ⟨rfl, hbB⟩
    clear q0 q1 q2 K4 hbA
    obtain ⟨q0, q1, q2⟩ := (HKN.out wB hbB).2.2.2.1
    go_wp2_with fail
    refine (K5.out wB hbB).mono ?_
    rintro e wt ⟨rfl, hbt⟩
    clear q0 q1 q2 K5 hbB
    go_wp2_with fail
    refine (KR.out wt hbt).mono ?_
    rintro e wa ⟨x1, x2, x3, ev, rfl, hx, hv, hba⟩
    have HXA : Hid (IsProg wa x1 x2 x3 (readD s).1 ∧ ErrV wa a (readD s).2 ev ∧ Below W5.heap.size W5 wa) := ⟨hx, hv, hba⟩
    obtain ⟨⟨xa, xc, rfl, -, -⟩, ⟨xb, xd, rfl, -, -⟩, ⟨xe, xf, rfl, -, -⟩⟩ := hx
    obtain ⟨l1, hl1⟩ : ∃ m, m = (readD s).1.vars.length := ⟨_, rfl⟩
    obtain ⟨l2, hl2⟩ : ∃ m, m = (readD s).1.funs.length := ⟨_, rfl⟩
    obtain ⟨l3, hl3⟩ : ∃ m, m = (readD s).1.stmts.length := ⟨_, rfl⟩
    rw [← hl1, ← hl2, ← hl3] at HXA ⊢
    have HLL : Hid (l1 = (readD s).1.vars.length ∧ l2 = (readD s).1.funs.length ∧ l3 = (readD s).1.stmts.length) := ⟨hl1, hl2, hl3⟩
    clear hv hba hl1 hl2 hl3 hbt
    go_upto_region 17 with fail
    obtain ⟨Wa, hWa⟩ : ∃ Wa, Wa = wa.alloc (.cells #[.slice xa l1 xc, .slice xb l2 xd, .slice xe l3 xf] 43) := ⟨_, rfl⟩
    have HBA : Hid (Below wa.heap.size wa Wa ∧ Box3 Wa wa.heap.size (.slice xa l1 xc) (.slice xb l2 xd) (.slice xe l3 xf)) := by
      rw [hWa]; exact ⟨below1 wa _, box3_new wa _ _ _ _⟩
    rw [← hWa]
    clear hWa
    go_wp2_with fail
    refine (KY.out Wa).mono ?_
    rintro e wb ⟨y1, y2, y3, rfl, hy, hbb⟩
    have HYB : Hid (IsProg wb y1 y2 y3 (readD s).1 ∧ Below Wa.heap.size Wa wb) := ⟨hy, hbb⟩
    obtain ⟨⟨ya, yc, rfl, -, -⟩, ⟨yb, yd, rfl, -, -⟩, ⟨ye, yf, rfl, -, -⟩⟩ := hy
    rw [← HLL.out.1, ← HLL.out.2.1, ← HLL.out.2.2] at HYB ⊢
    clear hbb
    go_upto_region 18 with fail
    obtain ⟨Wb, hWb⟩ : ∃ Wb, Wb = (wb.alloc (.cells #[.slice ya l1 yc, .slice yb l2 yd, .slice ye l3 yf] 43)).alloc (.cells #[.int .i64 rc, .int .i64 rp] 47) := ⟨_, rfl⟩
    have hBB : Below wb.heap.size wb Wb := by rw [hWb]; exact (below1 wb _).alloc (by simp) _
    have HYX : Hid (Box3 Wb wb.heap.size (.slice ya l1 yc) (.slice yb l2 yd) (.slice ye l3 yf)) := by
      show Box3 Wb _ _ _ _
      rw [hWb]; exact (box3_new wb _ _ _ _).below (below1 _ _)
    have g0 : Wb.cell? ⟨wb.heap.size + 1, 0, none⟩ = some (.int .i64 rc) := by rw [hWb]; simp
    have g1 : Wb.cell? ⟨wb.heap.size + 1, 1, none⟩ = some (.int .i64 rp) := by rw [hWb]; simp
    have hBab : Below wa.heap.size wa Wb := HBA.out.1.trans (((HYB.out.2).trans (hBB.mono HYB.out.2.size)).mono HBA.out.1.size)
    have HBb : Hid (Below wb.heap.size wb Wb ∧ Below wa.heap.size wa Wb ∧ Below Wa.heap.size Wa Wb ∧ Below w.heap.size w Wb) := ⟨hBB, hBab, HYB.out.2.trans (hBB.mono HYB.out.2.size), (HKN.out wa HXA.out.2.2).2.2.2.2.2.2.2.2.trans (hBab.mono (HKN.out wa HXA.out.2.2).2.2.2.2.2.2.2.2.size)⟩
    have KV : Hid (Calls Tryz.prog 27 #[ev, .agg #[.int .i64 rc, .int .i64 rp]] Wb fun r w' => r = .returned (.bool true) ∧ Below Wb.heap.size Wb w') := faulted_any a (readD s).2 ev rc rp Wb (((HKN.out wa HXA.out.2.2).2.2.1).below hBab) (HXA.out.2.1.below hBab) (readD_lt s) HRC.out.1 HRC.out.2
    obtain ⟨i0, i1, i2⟩ := HBA.out.2.below HBb.out.2.2.1
    obtain ⟨j0, j1, j2⟩ := HYX.out
    rw [← hWb]
    clear hWb hBB hBab
    go_wp2_with fail
    refine KV.out.mono ?_
    rintro e wd ⟨rfl, hbd⟩
    have i0' := cell_keep hbd i0
    have i1' := cell_keep hbd i1
    have i2' := cell_keep hbd i2
    have j0' := cell_keep hbd j0
    have j1' := cell_keep hbd j1
    have j2' := cell_keep hbd j2
    have KS : Hid (Calls Tryz.prog 40 #[.agg #[.slice xa l1 xc, .slice xb l2 xd, .slice xe l3 xf], .agg #[.slice ya l1 yc, .slice yb l2 yd, .slice ye l3 yf]] wd fun e w' => e = .returned (.bool true) ∧ Below wd.heap.size wd w') := sameProgram_true (readD s).1 _ _ _ _ _ _ wd (readD_small s) ((HXA.out.1.below HBb.out.2.1).below hbd) ((HYB.out.1.below HBb.out.1).below hbd)
    have HBd : Hid (Below w.heap.size w wd) := HBb.out.2.2.2.trans (hbd.mono HBb.out.2.2.2.size)
    clear KV hbd
    go_wp2_with fail
    refine KS.out.mono ?_
    rintro e we ⟨rfl, hbe⟩
    go_wp2_with fail
    go_ret
    exact ⟨rfl, HBd.out.trans (hbe.mono HBd.out.size)⟩
  | none =>
    have htr : true = (checkE P).isNone := by rw [hck]; rfl
    have hce : ce = 0 := by rw [HCE.out.1, hck]; rfl
    have HCK : Hid (checkE P = none ∧ true = (checkE P).isNone) := ⟨hck, htr⟩
    subst hce
    obtain ⟨N, hN⟩ : ∃ N, N = places P P.stmts.length := ⟨_, rfl⟩
    obtain ⟨bt, hbt0⟩ : ∃ b, b = S (textP P) := ⟨_, rfl⟩
    obtain ⟨zf, hzf⟩ : ∃ b, b = funD P z := ⟨_, rfl⟩
    obtain ⟨zp, hzp⟩ : ∃ b, b = placeD P z := ⟨_, rfl⟩
    have HNB : Hid (N ≤ 200000 ∧ n2 ≤ 100000) := by
      refine ⟨?_, by rw [HN.out.2.1]; exact HS.out.2.1⟩
      rw [hN]; unfold places
      have h1 := HS.out.1
      have h2 := HS.out.2.2.1
      have h3 := List.length_filter_le (fun t : StmtD => t.kind == kNew) (P.stmts.take P.stmts.length)
      rw [List.take_length] at h3 ⊢
      omega
    have K1 : Hid (Calls Tryz.prog 34 #[.agg #[.slice a1 n1 c1, .slice a2 n2 c2, .slice a3 n3 c3]] w7 fun e w' => e = .returned (.int .i64 (N : Int)) ∧ Below w7.heap.size w7 w') := by
      rw [hN]; exact refNodes_any P _ _ _ w7 HS.out (HKN.out w7 hb7).2.1
    have R1 : Hid (∀ wq, Below W5.heap.size W5 wq → ∀ d os, Calls Tryz.prog 29 #[.agg #[.slice b1 n1 d1, .slice b2 n2 d2, .slice b3 n3 d3]] (Go.Sort.grow (redrawn wq d) os) fun e w'' => e = .returned (.string bt) ∧ ∃ p : Regrown, w'' = Go.Sort.grow (redrawn wq p.d) p.os) := fun wq hB d os => Calls.regrown_of (by
      have hb := hB.trans ((below_regrown wq d os).mono hB.size)
      rw [hbt0]; exact text_right a P _ _ _ _ HS.out (HKN.out _ hb).1 (HKN.out _ hb).2.2.1.five HCK.out.1)
    have R2 : Hid (∀ wq, Below W5.heap.size W5 wq → ∀ d os, Calls Tryz.prog 35 #[.agg #[.slice a1 n1 c1, .slice a2 n2 c2, .slice a3 n3 c3]] (Go.Sort.grow (redrawn wq d) os) fun e w'' => e = .returned (.string bt) ∧ ∃ p : Regrown, w'' = Go.Sort.grow (redrawn wq p.d) p.os) := fun wq hB d os => Calls.regrown_of (by
      have hb := hB.trans ((below_regrown wq d os).mono hB.size)
      rw [hbt0]; exact refText_any P _ _ _ _ HS.out HCK.out.1 (HKN.out _ hb).2.1)
    have R3 : Hid (∀ wq, Below W5.heap.size W5 wq → ∀ d os, Calls Tryz.prog 30 #[.agg #[.slice b1 n1 d1, .slice b2 n2 d2, .slice b3 n3 d3]] (Go.Sort.grow (redrawn wq d) os) fun e w'' => e = .returned (.int .i64 (N : Int)) ∧ ∃ p : Regrown, w'' = Go.Sort.grow (redrawn wq p.d) p.os) := fun wq hB d os => Calls.regrown_of (by
      have hb := hB.trans ((below_regrown wq d os).mono hB.size)
      have := nodes_any a P _ _ _ (Go.Sort.grow (redrawn wq d) os) HS.out (HKN.out _ hb).1 (HKN.out _ hb).2.2.1.five
      rw [show nodesD P = (N : Int) by unfold nodesD; rw [← HCK.out.2, if_pos rfl, hN]] at this
      exact this)
    have R4 : Hid (∀ wq, Below W5.heap.size W5 wq → ∀ d os, Calls Tryz.prog 31 #[.agg #[.slice b1 n1 d1, .slice b2 n2 d2, .slice b3 n3 d3]] (Go.Sort.grow (redrawn wq d) os) fun e w'' => e = .returned (.int .i64 ((N : Int) + (n2 : Int))) ∧ ∃ p : Regrown, w'' = Go.Sort.grow (redrawn wq p.d) p.os) := fun wq hB d os => Calls.regrown_of (by
      have hb := hB.trans ((below_regrown wq d os).mono hB.size)
      have := objects_any a P _ _ _ (Go.Sort.grow (redrawn wq d) os) HS.out (HKN.out _ hb).1 (HKN.out _ hb).2.2.1.five
      rw [objD_in HCK.out.2, ← hN, ← HN.out.2.1] at this
      exact this)
    have R5 : Hid (∀ wq, Below W5.heap.size W5 wq → ∀ d os, Calls Tryz.prog 32 #[.agg #[.slice b1 n1 d1, .slice b2 n2 d2, .slice b3 n3 d3], .int .i64 z] (Go.Sort.grow (redrawn wq d) os) fun e w'' => e = .returned (.int .i64 zf) ∧ ∃ p : Regrown, w'' = Go.Sort.grow (redrawn wq p.d) p.os) := fun wq hB d os => Calls.regrown_of (by
      have hb := hB.trans ((below_regrown wq d os).mono hB.size)
      rw [hzf]; exact fun_any a P z _ _ _ _ HS.out (HKN.out _ hb).1 (HKN.out _ hb).2.2.1.five hz0 hz1)
    have R6 : Hid (∀ wq, Below W5.heap.size W5 wq → ∀ d os, Calls Tryz.prog 36 #[.agg #[.slice a1 n1 c1, .slice a2 n2 c2, .slice a3 n3 c3], .int .i64 z] (Go.Sort.grow (redrawn wq d) os) fun e w'' => e = .returned (.int .i64 zf) ∧ ∃ p : Regrown, w'' = Go.Sort.grow (redrawn wq p.d) p.os) := fun wq hB d os => Calls.regrown_of (by
      have hb := hB.trans ((below_regrown wq d os).mono hB.size)
      rw [hzf]; exact refFun_any P z _ _ _ _ HS.out (HKN.out _ hb).2.1 HCK.out.1 hz0 hz1)
    have R7 : Hid (∀ wq, Below W5.heap.size W5 wq → ∀ d os, Calls Tryz.prog 33 #[.agg #[.slice b1 n1 d1, .slice b2 n2 d2, .slice b3 n3 d3], .int .i64 z] (Go.Sort.grow (redrawn wq d) os) fun e w'' => e = .returned (.int .i64 zp) ∧ ∃ p : Regrown, w'' = Go.Sort.grow (redrawn wq p.d) p.os) := fun wq hB d os => Calls.regrown_of (by
      have hb := hB.trans ((below_regrown wq d os).mono hB.size)
      rw [hzp]; exact place_any a P z _ _ _ _ HS.out (HKN.out _ hb).1 (HKN.out _ hb).2.2.1.five)
    have R8 : Hid (∀ wq, Below W5.heap.size W5 wq → ∀ d os, Calls Tryz.prog 37 #[.agg #[.slice a1 n1 c1, .slice a2 n2 c2, .slice a3 n3 c3], .int .i64 z] (Go.Sort.grow (redrawn wq d) os) fun e w'' => e = .returned (.int .i64 zp) ∧ ∃ p : Regrown, w'' = Go.Sort.grow (redrawn wq p.d) p.os) := fun wq hB d os => Calls.regrown_of (by
      have hb := hB.trans ((below_regrown wq d os).mono hB.size)
      rw [hzp]; exact refPlace_any P z _ _ _ _ HS.out (HKN.out _ hb).2.1 HCK.out.1)
    clear hck htr hN hbt0 hzf hzp
    go_wp2_with fail
    refine K1.out.mono ?_
    rintro e wq ⟨rfl, hbq'⟩
    have hbq : Below W5.heap.size W5 wq := hb7.trans (hbq'.mono hb7.size)
    clear q0 q1 q2 p0 p1 p2 f0 K1 hb7 hbq'
    go_upto_region 12 with fail
    obtain ⟨q0, q1, q2⟩ := (HKN.out wq hbq).2.2.2.1
    obtain ⟨p0, p1, p2⟩ := (HKN.out wq hbq).2.2.2.2.1
    have Q0 := cell_regrown q0
    have Q1 := cell_regrown q1
    have Q2 := cell_regrown q2
    have P0 := cell_regrown p0
    have P1 := cell_regrown p1
    have P2 := cell_regrown p2
    have HBq : Hid (Below W5.heap.size W5 wq) := hbq
    have hNB := HNB.out
    obtain ⟨hNB1, hNB2⟩ := hNB
    clear q0 q1 q2 p0 p1 p2 hbq
    refine wp_region_quiet_below (by kernel_rfl) (by kernel_rfl) ?_
    repeat (quiet_step (first | exact R1.out _ HBq.out _ _ | exact R2.out _ HBq.out _ _ | exact R3.out _ HBq.out _ _ | exact R4.out _ HBq.out _ _))
    refine wpQuiet_nil ?_
    intro _ hw'
    obtain ⟨⟨dq, osq⟩, hw''⟩ := hw'
    subst hw''
    have hbf : Below W5.heap.size W5 (Go.Sort.grow (redrawn wq dq) osq) := HBq.out.trans ((below_regrown wq dq osq).mono HBq.out.size)
    obtain ⟨wf, hwf⟩ : ∃ wf, wf = Go.Sort.grow (redrawn wq dq) osq := ⟨_, rfl⟩
    rw [← hwf] at hbf ⊢
    clear R1 R2 R3 R4 Q0 Q1 Q2 P0 P1 P2 hwf HBq
    have hwr : ((N : Int) + (n2 : Int) != IntKind.i64.wrap ((N : Int) + (n2 : Int))) = false := by
      have : IntKind.i64.wrap ((N : Int) + (n2 : Int)) = (N : Int) + (n2 : Int) := by rw [IntKind.wrap_i64]; omega
      rw [this]; simp
    try simp only [hwr]
    clear hwr
    go_upto_region 14 with fail
    obtain ⟨q0, q1, q2⟩ := (HKN.out wf hbf).2.2.2.1
    obtain ⟨p0, p1, p2⟩ := (HKN.out wf hbf).2.2.2.2.1
    have Q0 := cell_regrown q0
    have Q1 := cell_regrown q1
    have Q2 := cell_regrown q2
    have P0 := cell_regrown p0
    have P1 := cell_regrown p1
    have P2 := cell_regrown p2
    have HBf : Hid (Below W5.heap.size W5 wf) := hbf
    clear q0 q1 q2 p0 p1 p2 hbf
    refine wp_region_quiet_below (by kernel_rfl) (by kernel_rfl) ?_
    repeat (quiet_step (first | exact R5.out _ HBf.out _ _ | exact R6.out _ HBf.out _ _ | exact R7.out _ HBf.out _ _ | exact R8.out _ HBf.out _ _))
    refine wpQuiet_nil ?_
    intro _ hw'
    obtain ⟨⟨dq2, osq2⟩, hw''⟩ := hw'
    subst hw''
    have hbt : Below W5.heap.size W5 (Go.Sort.grow (redrawn wf dq2) osq2) := HBf.out.trans ((below_regrown wf dq2 osq2).mono HBf.out.size)
    obtain ⟨wt, hwt⟩ : ∃ wt, wt = Go.Sort.grow (redrawn wf dq2) osq2 := ⟨_, rfl⟩
    rw [← hwt] at hbt ⊢
    clear R5 R6 R7 R8 Q0 Q1 Q2 P0 P1 P2 hwt HBf
    go_wp2_with fail
    refine (KR.out wt hbt).mono ?_
    rintro e wa ⟨x1, x2, x3, ev, rfl, hx, hv, hba⟩
    have HXA : Hid (IsProg wa x1 x2 x3 (readD s).1 ∧ ErrV wa a (readD s).2 ev ∧ Below W5.heap.size W5 wa) := ⟨hx, hv, hba⟩
    obtain ⟨⟨xa, xc, rfl, -, -⟩, ⟨xb, xd, rfl, -, -⟩, ⟨xe, xf, rfl, -, -⟩⟩ := hx
    obtain ⟨l1, hl1⟩ : ∃ m, m = (readD s).1.vars.length := ⟨_, rfl⟩
    obtain ⟨l2, hl2⟩ : ∃ m, m = (readD s).1.funs.length := ⟨_, rfl⟩
    obtain ⟨l3, hl3⟩ : ∃ m, m = (readD s).1.stmts.length := ⟨_, rfl⟩
    rw [← hl1, ← hl2, ← hl3] at HXA ⊢
    have HLL : Hid (l1 = (readD s).1.vars.length ∧ l2 = (readD s).1.funs.length ∧ l3 = (readD s).1.stmts.length) := ⟨hl1, hl2, hl3⟩
    clear hv hba hl1 hl2 hl3 hbt
    go_upto_region 17 with fail
    obtain ⟨Wa, hWa⟩ : ∃ Wa, Wa = wa.alloc (.cells #[.slice xa l1 xc, .slice xb l2 xd, .slice xe l3 xf] 43) := ⟨_, rfl⟩
    have HBA : Hid (Below wa.heap.size wa Wa ∧ Box3 Wa wa.heap.size (.slice xa l1 xc) (.slice xb l2 xd) (.slice xe l3 xf)) := by
      rw [hWa]; exact ⟨below1 wa _, box3_new wa _ _ _ _⟩
    rw [← hWa]
    clear hWa
    go_wp2_with fail
    refine (KY.out Wa).mono ?_
    rintro e wb ⟨y1, y2, y3, rfl, hy, hbb⟩
    have HYB : Hid (IsProg wb y1 y2 y3 (readD s).1 ∧ Below Wa.heap.size Wa wb) := ⟨hy, hbb⟩
    obtain ⟨⟨ya, yc, rfl, -, -⟩, ⟨yb, yd, rfl, -, -⟩, ⟨ye, yf, rfl, -, -⟩⟩ := hy
    rw [← HLL.out.1, ← HLL.out.2.1, ← HLL.out.2.2] at HYB ⊢
    clear hbb
    go_upto_region 18 with fail
    obtain ⟨Wb, hWb⟩ : ∃ Wb, Wb = (wb.alloc (.cells #[.slice ya l1 yc, .slice yb l2 yd, .slice ye l3 yf] 43)).alloc (.cells #[.int .i64 rc, .int .i64 rp] 47) := ⟨_, rfl⟩
    have hBB : Below wb.heap.size wb Wb := by rw [hWb]; exact (below1 wb _).alloc (by simp) _
    have HYX : Hid (Box3 Wb wb.heap.size (.slice ya l1 yc) (.slice yb l2 yd) (.slice ye l3 yf)) := by
      show Box3 Wb _ _ _ _
      rw [hWb]; exact (box3_new wb _ _ _ _).below (below1 _ _)
    have g0 : Wb.cell? ⟨wb.heap.size + 1, 0, none⟩ = some (.int .i64 rc) := by rw [hWb]; simp
    have g1 : Wb.cell? ⟨wb.heap.size + 1, 1, none⟩ = some (.int .i64 rp) := by rw [hWb]; simp
    have hBab : Below wa.heap.size wa Wb := HBA.out.1.trans (((HYB.out.2).trans (hBB.mono HYB.out.2.size)).mono HBA.out.1.size)
    have HBb : Hid (Below wb.heap.size wb Wb ∧ Below wa.heap.size wa Wb ∧ Below Wa.heap.size Wa Wb ∧ Below w.heap.size w Wb) := ⟨hBB, hBab, HYB.out.2.trans (hBB.mono HYB.out.2.size), (HKN.out wa HXA.out.2.2).2.2.2.2.2.2.2.2.trans (hBab.mono (HKN.out wa HXA.out.2.2).2.2.2.2.2.2.2.2.size)⟩
    have KV : Hid (Calls Tryz.prog 27 #[ev, .agg #[.int .i64 rc, .int .i64 rp]] Wb fun r w' => r = .returned (.bool true) ∧ Below Wb.heap.size Wb w') := faulted_any a (readD s).2 ev rc rp Wb (((HKN.out wa HXA.out.2.2).2.2.1).below hBab) (HXA.out.2.1.below hBab) (readD_lt s) HRC.out.1 HRC.out.2
    obtain ⟨i0, i1, i2⟩ := HBA.out.2.below HBb.out.2.2.1
    obtain ⟨j0, j1, j2⟩ := HYX.out
    rw [← hWb]
    clear hWb hBB hBab
    go_wp2_with fail
    refine KV.out.mono ?_
    rintro e wd ⟨rfl, hbd⟩
    have i0' := cell_keep hbd i0
    have i1' := cell_keep hbd i1
    have i2' := cell_keep hbd i2
    have j0' := cell_keep hbd j0
    have j1' := cell_keep hbd j1
    have j2' := cell_keep hbd j2
    have KS : Hid (Calls Tryz.prog 40 #[.agg #[.slice xa l1 xc, .slice xb l2 xd, .slice xe l3 xf], .agg #[.slice ya l1 yc, .slice yb l2 yd, .slice ye l3 yf]] wd fun e w' => e = .returned (.bool true) ∧ Below wd.heap.size wd w') := sameProgram_true (readD s).1 _ _ _ _ _ _ wd (readD_small s) ((HXA.out.1.below HBb.out.2.1).below hbd) ((HYB.out.1.below HBb.out.1).below hbd)
    have HBd : Hid (Below w.heap.size w wd) := HBb.out.2.2.2.trans (hbd.mono HBb.out.2.2.2.size)
    clear KV hbd
    go_wp2_with fail
    refine KS.out.mono ?_
    rintro e we ⟨rfl, hbe⟩
    go_wp2_with fail
    go_ret
    exact ⟨rfl, HBd.out.trans (hbe.mono HBd.out.size)⟩
end Go.Proofs.YtakmmpbkojhmhaaGreatDoor

/-
  OwnInts and OwnProgram: numbers, and a program, in memory of their own, by contracts.
-/
import Derived.Test.YtglonlpfnllocaaGreatDoorPMemM
namespace Go.Proofs.YtglonlpfnllocaaGreatDoor
open Go.RowKit Go.Extern.Stop Go.Stop Go.Extern

/-- What a slice holds is put behind the nil slice: a row of one's own. -/
theorem own_row (w : World) (t e : TypeId) (z : Value) (by_ : Nat) (ht : Tryz.prog.underlying t = some (.slice e)) (hi : (Tryz.prog.info? e).map (fun i => (i.zero, i.size, i.bytes)) = some (some z, 1, by_)) (hby : by_ ≤ 1000) (hzc : z.cells.size = 1)
    (a : Option Addr) (c : Nat) (news : List Value) (hc : ∀ j, j < news.length → ∃ b o, a = some ⟨b, o, none⟩ ∧ w.cell? ⟨b, o + j, none⟩ = news[j]?) (hone : ∀ u ∈ news, u.oneCell' = true) (hl : news.length ≤ 1000000) (ty : TypeId) :
    ∃ v' w', (Builtin.append_ #[t, t] ty #[.slice none 0 0, .slice a news.length c]).run Tryz.prog w = .ok v' w' ∧ w'.ownsRow w.heap.size e 1 v' news.length news ∧ Below w.heap.size w w' := by
  obtain ⟨i0, hi', hz0, hz1, hz2⟩ := info_parts hi
  have hmul : (0 + news.length) * by_ ≤ 1000000 * 1000 := Nat.mul_le_mul (by omega) hby
  have some_case : ∀ ad, a = some ad → (∀ j u, news[j]? = some u → w.cell? (ad.add j) = some u) → ∃ v' w', (Builtin.append_ #[t, t] ty #[.slice none 0 0, .slice a news.length c]).run Tryz.prog w = .ok v' w' ∧ w'.ownsRow w.heap.size e 1 v' news.length news ∧ Below w.heap.size w w' := by
    intro ad ea hcc
    subst ea
    obtain ⟨v', w', h1, h2, h3, _⟩ := run_append_own (P := Tryz.prog) w w.heap.size t ty e i0 z 1 by_ ht hi' hz0 hz1 hz2 hzc (by decide) (.slice none 0 0) 0 [] (World.ownsRow_nil _ _ _ _) ad news.length c news (by simp) hcc hone (by unfold maxLen; omega) (by omega) (Nat.le_refl _)
    refine ⟨v', w', h1, by simpa using h2, below_of_grown h3 (Nat.le_refl _) (World.ownsRow_nil w w.heap.size e 1) (Nat.le_refl _)⟩
  cases a with
  | some ad =>
    refine some_case ad rfl (fun j u hj => ?_)
    have hjl : j < news.length := (List.getElem?_eq_some_iff.1 hj).1
    obtain ⟨b, o, ea, hcell⟩ := hc j hjl
    cases ea
    rw [Addr.add_lit, hcell, hj]
  | none =>
    clear some_case
    have hn : news = [] := by
      rcases news with _ | ⟨x, r⟩
      · rfl
      · obtain ⟨b, o, ea, _⟩ := hc 0 (by simp)
        cases ea
    subst hn
    refine ⟨.slice none 0 0, w, ?_, World.ownsRow_nil _ _ _ _, Below.refl _ _⟩
    simp [Builtin.append_, run_underlying ht, sizeOf, typeInfo, hi', Builtin.lenOf, Builtin.firstCells]

theorem isInts_row {w : World} {v : Value} {zs : List Int} (h : IsInts w v zs) : ∃ a c, v = .slice a (zs.map intV).length c ∧ ∀ j, j < (zs.map intV).length → ∃ b o, a = some ⟨b, o, none⟩ ∧ w.cell? ⟨b, o + j, none⟩ = (zs.map intV)[j]? := by
  obtain ⟨a, c, rfl⟩ := isInts_form h
  refine ⟨a, c, by simp, fun j hj => ?_⟩
  have hj' : j < zs.length := by simpa using hj
  obtain ⟨b, o, ha, e⟩ := isInts_at h j hj'
  exact ⟨b, o, ha, by rw [e]; simp [intV, List.getD, hj']⟩
theorem isStrs_row {w : World} {v : Value} {ss : List Bs} (h : IsStrs w v ss) : ∃ a c, v = .slice a (ss.map strV).length c ∧ ∀ j, j < (ss.map strV).length → ∃ b o, a = some ⟨b, o, none⟩ ∧ w.cell? ⟨b, o + j, none⟩ = (ss.map strV)[j]? := by
  obtain ⟨a, c, rfl, _, hc⟩ := h
  refine ⟨a, c, by simp, fun j hj => ?_⟩
  have hj' : j < ss.length := by simpa using hj
  obtain ⟨b, o, ha, e⟩ := hc j hj'
  exact ⟨b, o, ha, by rw [e]; simp [strV, List.getD, hj']⟩

/-- OwnInts. -/
theorem ownInts_row (zs : List Int) (v : Value) (w : World) (hm : zs.length ≤ 1000000) (h : IsInts w v zs) :
    Calls Tryz.prog 29 #[v] w fun e w' => ∃ pa pc, e = .returned (.slice pa zs.length pc) ∧ w'.ownsRow w.heap.size 3 1 (.slice pa zs.length pc) zs.length (zs.map intV) ∧ Below w.heap.size w w' := by
  obtain ⟨a, c, rfl, hc⟩ := isInts_row h
  obtain ⟨v', w', hr, ho, hb⟩ := own_row w 40 3 (.int .i64 0) 8 Tryz.underlying40 Tryz.infoInt (by decide) rfl a c (zs.map intV) hc (fun u hu => by obtain ⟨y, _, rfl⟩ := List.mem_map.1 hu; rfl) (by simpa using hm) 40
  have hl : (zs.map intV).length = zs.length := by simp
  rw [hl] at ho hr ⊢
  obtain ⟨pa, pc, rfl⟩ := owns_form ho
  have HX : Hid (w'.ownsRow w.heap.size 3 1 (.slice pa zs.length pc) zs.length (zs.map intV) ∧ Below w.heap.size w w') := ⟨ho, hb⟩
  obtain ⟨n, hn⟩ : ∃ n, n = zs.length := ⟨_, rfl⟩
  rw [← hn] at hr HX ⊢
  clear ho hb h hc hl hn hm
  go_enter Tryz.func29, Tryz.ntmps29
  go_wp2_with (at_builtin; refine Lib.wpList_append_run _ rfl _ _ _ _ rfl _ _ rfl rfl _ _ hr ?_)
  go_ret
  exact ⟨pa, pc, rfl, HX.out⟩

theorem take_snoc {α : Type} (l : List α) (d : α) (k : Nat) (h : k < l.length) : l.take (k + 1) = l.take k ++ [l.getD k d] := by
  rw [List.take_add_one]
  simp [List.getD, h]

set_option maxRecDepth 100000 in
set_option maxHeartbeats 8000000 in
theorem ownProgram_any (P : ProgD) (v1 v2 v3 : Value) (w : World) (hs : SmallP P) (h : IsProg w v1 v2 v3 P) :
    Calls Tryz.prog 9 #[.agg #[v1, v2, v3]] w fun e w' => ∃ u1 u2 u3, e = .returned (.agg #[u1, u2, u3]) ∧ IsProg w' u1 u2 u3 P ∧ Below w.heap.size w w' := by
  have H : Hid (IsProg w v1 v2 v3 P) := h
  have HS : Hid (SmallP P) := hs
  obtain ⟨W2, hW2⟩ : ∃ W, W = (w.alloc (.cells #[v1, v2, v3] 26)).alloc (.cells #[.slice none 0 0, .slice none 0 0, .slice none 0 0] 26) := ⟨_, rfl⟩
  have hBW : Below w.heap.size w W2 := by rw [hW2]; exact (below1 w _).alloc (by simp) _
  have hsz : W2.heap.size = w.heap.size + 2 := by rw [hW2]; simp
  have HX : Hid (Box3 W2 w.heap.size v1 v2 v3) := by
    show Box3 W2 w.heap.size v1 v2 v3
    rw [hW2]; exact (box3_new w _ _ _ _).below (below1 _ _)
  have HRB : Hid (W2.heap[w.heap.size + 1]? = some (.cells #[.slice none 0 0, .slice none 0 0, .slice none 0 0] 26 (0, 0))) := by
    show W2.heap[w.heap.size + 1]? = _
    rw [hW2]
    have := heap_new (w.alloc (.cells #[v1, v2, v3] 26)) (.cells #[.slice none 0 0, .slice none 0 0, .slice none 0 0] 26)
    rw [World.size_alloc] at this
    exact this
  obtain ⟨a1, c1, e1, hc1⟩ := isStrs_row (h.vars.below hBW)
  obtain ⟨u1, w2, hr, ho, hb⟩ := own_row W2 22 9 (.string ⟨#[]⟩) 16 Tryz.underlying22 Tryz.infoString (by decide) rfl a1 c1 (P.vars.map strV) hc1 (fun u hu => by obtain ⟨y, _, rfl⟩ := List.mem_map.1 hu; rfl) (by have := hs.1; simp; omega) 22
  have hl : (P.vars.map strV).length = P.vars.length := by simp
  rw [hl] at ho e1 hr
  obtain ⟨x1, y1, rfl⟩ := owns_form ho
  obtain ⟨B, hBe⟩ : ∃ B, B = w.heap.size + 2 := ⟨_, rfl⟩
  rw [hsz, ← hBe] at ho hb
  obtain ⟨pb, hpb⟩ : ∃ pb, pb = w2.heap.size := ⟨_, rfl⟩
  obtain ⟨m1, hm1⟩ : ∃ m, m = P.vars.length := ⟨_, rfl⟩
  obtain ⟨n2, hn2⟩ : ∃ m, m = P.funs.length := ⟨_, rfl⟩
  obtain ⟨n3, hn3⟩ : ∃ m, m = P.stmts.length := ⟨_, rfl⟩
  have hm2 : n2 ≤ 100000 := by rw [hn2]; exact hs.2.1
  have hm3 : n3 ≤ 100000 := by rw [hn3]; exact hs.2.2.1
  obtain ⟨a2, c2, e2, -⟩ := h.funs
  obtain ⟨a3, c3, e3, -⟩ := h.stmts
  have HN : Hid (n2 = P.funs.length ∧ n3 = P.stmts.length ∧ m1 = P.vars.length) := ⟨hn2, hn3, hm1⟩
  have HST : Hid (St (w2.alloc (.cells #[.slice x1 m1 y1, .slice none 0 0, .slice none 0 0] 26)) B pb { P with funs := P.funs.take 0, stmts := [] } (.slice x1 m1 y1) (.slice none 0 0) (.slice none 0 0) [] []) := by
    show St _ _ _ _ _ _ _ _ _
    rw [hm1, hpb]
    exact ⟨by have := hb.size; omega, heap_new w2 _, owns_below ho (below1 _ _), rfl, World.ownsRow_nil _ _ _ _, fun _ hj => absurd hj (Nat.not_lt_zero _), rfl, World.ownsRow_nil _ _ _ _, fun _ hj => absurd hj (Nat.not_lt_zero _)⟩
  have HBB : Hid (Below B W2 w2 ∧ Below w.heap.size w W2 ∧ W2.heap.size = B ∧ B = w.heap.size + 2 ∧ pb = w2.heap.size ∧ B ≤ pb) := ⟨hb, hBW, by omega, hBe, hpb, by have := hb.size; omega⟩
  rw [← hm1] at e1 hr
  rw [← hn2] at e2
  rw [← hn3] at e3
  subst e1 e2 e3
  rw [hW2] at hr
  have hr15 : pb ≠ w.heap.size + 1 := by have := HBB.out; omega
  clear hm1 hn2 hn3 hBW hb ho hc1 hl hsz hs h hBe
  go_enter Tryz.func9, Tryz.ntmps9
  go_wp2_with (at_builtin; refine Lib.wpList_append_run _ rfl _ _ _ _ rfl _ _ rfl rfl _ _ hr ?_)
  rw [← hpb]
  clear hr hpb
  go_loopw [5] (fun t wr => ∃ (k : Nat) (u2 : Value) (ps : List Value), k ≤ n2 ∧ t = .int .i64 k ∧ St wr B pb { P with funs := P.funs.take k, stmts := [] } (.slice x1 m1 y1) u2 (.slice none 0 0) ps [] ∧ Below B W2 wr) (fun t _ => (n2 - intOf t).toNat)
  case atStart => exact ⟨0, _, [], Nat.zero_le _, rfl, HST.out, HBB.out.1.alloc (by have := HBB.out; have := HBB.out.1.size; omega) _⟩
  case round =>
    obtain ⟨k, u2, ps, hk, rfl, hst, hB⟩ := hrel
    have hBw : Below w.heap.size w wr := HBB.out.2.1.trans (hB.mono (by have := HBB.out; omega))
    have hBx : Below W2.heap.size W2 wr := by rw [HBB.out.2.2.1]; exact hB
    obtain ⟨p0, p1, p2⟩ := HX.out.below hBx
    by_cases hlt : k < n2
    · obtain ⟨_, _, hv2, _, hst2⟩ := (H.out.below hBw).funs
      obtain ⟨g, o, ha2, e0⟩ := hst2 k (by rw [← HN.out.1]; exact hlt)
      obtain rfl : a2 = some ⟨g, o, none⟩ := by rw [← ha2]; exact (Value.slice.inj hv2).1
      obtain ⟨z, hze⟩ : ∃ z, z = P.funs.getD k default := ⟨_, rfl⟩
      have hmem : P.funs.getD k default ∈ P.funs := by simp [List.getD, HN.out.1 ▸ hlt]
      rw [← hze] at e0 hmem
      have HZ : Hid (z = P.funs.getD k default) := hze
      obtain ⟨pv, r1, r2, hi, r3⟩ := e0
      have hzl := HS.out.2.2.2.1 z hmem
      obtain ⟨nm, hnm⟩ : ∃ nm, nm = S z.name := ⟨_, rfl⟩
      obtain ⟨rt, hrt⟩ : ∃ rt, rt = z.ret := ⟨_, rfl⟩
      have HNM : Hid (nm = S z.name ∧ rt = z.ret) := ⟨hnm, hrt⟩
      rw [← hnm] at r1
      rw [← hrt] at r3
      have hi2 := hi.1
      obtain ⟨-, pa, pc, rfl, -⟩ := hi
      have KO : Hid (∀ o', Calls Tryz.prog 29 #[.slice pa z.params.length pc] (wr.alloc o') fun e w' => ∃ qa qc, e = .returned (.slice qa z.params.length qc) ∧ w'.ownsRow (wr.alloc o').heap.size 3 1 (.slice qa z.params.length qc) z.params.length (z.params.map intV) ∧ Below (wr.alloc o').heap.size (wr.alloc o') w') := fun o' => ownInts_row z.params _ _ (by omega) (hi2.below (below1 wr o'))
      obtain ⟨m, hm⟩ : ∃ m, m = z.params.length := ⟨_, rfl⟩
      have HM : Hid (m = z.params.length) := hm
      rw [← hm] at r2 KO
      have HSTR : Hid (St wr B pb { P with funs := P.funs.take k, stmts := [] } (.slice x1 m1 y1) u2 (.slice none 0 0) ps []) := hst
      clear hv2 hst2 ha2 hze hmem hnm hrt hi2 hzl hm p0 p2 hst
      go_wp2_with fail
      refine (KO.out _).mono ?_
      rintro e w5 ⟨qa, qc, rfl, ho5, hB5⟩
      have hblk5 := block_keep hB5 (heap_new wr (.cells #[.string nm, .slice pa m pc, .int .i64 rt] 60))
      have g1 : w5.cell? ⟨wr.heap.size, 1, none⟩ = some (.slice pa m pc) := by rw [Lib.cell_of_heap hblk5]; rfl
      have g2 := frozen_of_block hblk5 1
      have HB5 : Hid (Below wr.heap.size wr w5) := (below1 wr _).trans (hB5.mono (by simp))
      have HO5 : Hid (w5.ownsRow B 3 1 (.slice qa m qc) m (z.params.map intV)) := owns_mono ho5 (by have := HSTR.out.size; simp; omega)
      have HBLK5 : Hid (w5.heap[wr.heap.size]? = some (.cells #[.string nm, .slice pa m pc, .int .i64 rt] 60 (0, 0))) := hblk5
      clear KO ho5 hB5 hblk5 r1 r2 r3
      go_upto_region 8 with fail
      obtain ⟨wt, hwt⟩ : ∃ wt, wt = w5.setCell ⟨wr.heap.size, 1, none⟩ (.slice qa m qc) := ⟨_, rfl⟩
      have hbt : Below wr.heap.size wr wt := by rw [hwt]; exact HB5.out.setCell (Nat.le_refl _) _
      have hblk : wt.heap[wr.heap.size]? = some (.cells #[.string nm, .slice qa m qc, .int .i64 rt] 60 (0, 0)) := by rw [hwt, set_block _ _ _ _ _ _ HBLK5.out]; rfl
      have hot : wt.ownsRow B 3 1 (.slice qa m qc) m (z.params.map intV) := by rw [hwt]; exact owns_kept HO5.out (kept_setCell HBLK5.out _) (by decide)
      rw [← hwt]
      clear hwt g1 g2 HB5 HO5 HBLK5
      have hsT := HSTR.out.below hbt
      obtain ⟨d0, d1, d2⟩ := hsT.cells
      obtain ⟨xa, xc, rfl⟩ := owns_form hsT.o2
      have t0 : wt.cell? ⟨wr.heap.size, 0, none⟩ = some (.string nm) := by rw [Lib.cell_of_heap hblk]; rfl
      have t1 : wt.cell? ⟨wr.heap.size, 1, none⟩ = some (.slice qa m qc) := by rw [Lib.cell_of_heap hblk]; rfl
      have t2 : wt.cell? ⟨wr.heap.size, 2, none⟩ = some (.int .i64 rt) := by rw [Lib.cell_of_heap hblk]; rfl
      obtain ⟨v', w7, hr7, k0, k1, ⟨ya, yn, yc, rfl⟩, hS, hBe⟩ := hsT.addFun (by have := HN.out; simp; omega) z (.slice qa m qc) (by rw [← HM.out]; exact hot)
      rw [← HNM.out.1, ← HNM.out.2] at hr7
      have HS7 : Hid (St (w7.setCell ⟨pb, 1, none⟩ (.slice ya yn yc)) B pb { P with funs := P.funs.take (k + 1), stmts := [] } (.slice x1 m1 y1) (.slice ya yn yc) (.slice none 0 0) (ps ++ [.slice qa m qc]) [] ∧ Below B W2 (w7.setCell ⟨pb, 1, none⟩ (.slice ya yn yc))) := by
        refine ⟨?_, (hB.trans (hbt.mono HSTR.out.size)).trans hBe⟩
        rw [take_snoc P.funs default k (by rw [← HN.out.1]; exact hlt), ← HZ.out]
        exact hS
      obtain ⟨mk, hmk⟩ : ∃ m, m = ({ P with funs := P.funs.take k, stmts := [] } : ProgD).funs.length := ⟨_, rfl⟩
      rw [← hmk] at d1 hr7 k0
      have HR7 : Hid _ := hr7
      clear hS hBe hsT hbt hblk hot HSTR hmk d0 d2 hr7
      go_wp2_with (at_builtin; refine Lib.wpList_append_run _ rfl _ _ _ _ rfl _ _ rfl rfl _ _ HR7.out ?_)
      go_roundw
      case rel => exact ⟨k + 1, _, _, hlt, by go_num, HS7.out⟩
      case measure => simp [intOf]; omega
    · obtain rfl : k = n2 := by omega
      have hT : P.funs.take k = P.funs := by rw [HN.out.1]; exact List.take_length
      rw [hT] at hst
      obtain ⟨wq, hwq⟩ : ∃ wq, wq = wr := ⟨_, rfl⟩
      rw [← hwq] at hst hB hBw hBx p0 p1 p2 ⊢
      have HST2 : Hid (St wq B pb { P with funs := P.funs, stmts := P.stmts.take 0 } (.slice x1 m1 y1) u2 (.slice none 0 0) ps []) := hst
      have HBQ : Hid (Below B W2 wq) := hB
      clear hT hwq hst hB hBw hBx hlt hk
      go_wp2_with fail
      clear p0 p1 p2
      go_loopw [7] (fun t wr => ∃ (k : Nat) (u3 : Value) (qs : List Value), k ≤ n3 ∧ t = .int .i64 k ∧ St wr B pb { P with funs := P.funs, stmts := P.stmts.take k } (.slice x1 m1 y1) u2 u3 ps qs ∧ Below B W2 wr) (fun t _ => (n3 - intOf t).toNat)
      case atStart => exact ⟨0, _, [], Nat.zero_le _, rfl, HST2.out, HBQ.out⟩
      case round =>
        obtain ⟨k, u3, qs, hk, rfl, hst, hB⟩ := hrel
        have hBw : Below w.heap.size w wr := HBB.out.2.1.trans (hB.mono (by have := HBB.out; omega))
        have hBx : Below W2.heap.size W2 wr := by rw [HBB.out.2.2.1]; exact hB
        obtain ⟨p0, p1, p2⟩ := HX.out.below hBx
        by_cases hlt : k < n3
        · obtain ⟨_, _, hv2, _, hst2⟩ := (H.out.below hBw).stmts
          obtain ⟨g, o, ha2, e0⟩ := hst2 k (by rw [← HN.out.2.1]; exact hlt)
          obtain rfl : a3 = some ⟨g, o, none⟩ := by rw [← ha2]; exact (Value.slice.inj hv2).1
          obtain ⟨z, hze⟩ : ∃ z, z = P.stmts.getD k default := ⟨_, rfl⟩
          have hmem : P.stmts.getD k default ∈ P.stmts := by simp [List.getD, HN.out.2.1 ▸ hlt]
          rw [← hze] at e0 hmem
          have HZ : Hid (z = P.stmts.getD k default) := hze
          obtain ⟨pv, r1, r2, r3, r4, hi⟩ := e0
          have hzl := HS.out.2.2.2.2 z hmem
          obtain ⟨nm, hnm⟩ : ∃ nm, nm = S z.kind := ⟨_, rfl⟩
          obtain ⟨zx, hzx⟩ : ∃ rt, rt = z.x := ⟨_, rfl⟩
          obtain ⟨zy, hzy⟩ : ∃ rt, rt = z.y := ⟨_, rfl⟩
          have HNM : Hid (nm = S z.kind ∧ zx = z.x ∧ zy = z.y) := ⟨hnm, hzx, hzy⟩
          rw [← hnm] at r1
          rw [← hzx] at r2
          rw [← hzy] at r3
          have hi2 := hi.1
          obtain ⟨-, pa, pc, rfl, -⟩ := hi
          have KO : Hid (∀ o', Calls Tryz.prog 29 #[.slice pa z.args.length pc] (wr.alloc o') fun e w' => ∃ qa qc, e = .returned (.slice qa z.args.length qc) ∧ w'.ownsRow (wr.alloc o').heap.size 3 1 (.slice qa z.args.length qc) z.args.length (z.args.map intV) ∧ Below (wr.alloc o').heap.size (wr.alloc o') w') := fun o' => ownInts_row z.args _ _ (by omega) (hi2.below (below1 wr o'))
          obtain ⟨m, hm⟩ : ∃ m, m = z.args.length := ⟨_, rfl⟩
          have HM : Hid (m = z.args.length) := hm
          rw [← hm] at r4 KO
          have HSTR : Hid (St wr B pb { P with funs := P.funs, stmts := P.stmts.take k } (.slice x1 m1 y1) u2 u3 ps qs) := hst
          clear hv2 hst2 ha2 hze hmem hnm hzx hzy hi2 hzl hm p0 p1 hst
          go_wp2_with fail
          refine (KO.out _).mono ?_
          rintro e w5 ⟨qa, qc, rfl, ho5, hB5⟩
          have hblk5 := block_keep hB5 (heap_new wr (.cells #[.string nm, .int .i64 zx, .int .i64 zy, .slice pa m pc] 45))
          have g1 : w5.cell? ⟨wr.heap.size, 3, none⟩ = some (.slice pa m pc) := by rw [Lib.cell_of_heap hblk5]; rfl
          have g2 := frozen_of_block hblk5 3
          have HB5 : Hid (Below wr.heap.size wr w5) := (below1 wr _).trans (hB5.mono (by simp))
          have HO5 : Hid (w5.ownsRow B 3 1 (.slice qa m qc) m (z.args.map intV)) := owns_mono ho5 (by have := HSTR.out.size; simp; omega)
          have HBLK5 : Hid (w5.heap[wr.heap.size]? = some (.cells #[.string nm, .int .i64 zx, .int .i64 zy, .slice pa m pc] 45 (0, 0))) := hblk5
          clear KO ho5 hB5 hblk5 r1 r2 r3 r4
          go_upto_region 14 with fail
          obtain ⟨wt, hwt⟩ : ∃ wt, wt = w5.setCell ⟨wr.heap.size, 3, none⟩ (.slice qa m qc) := ⟨_, rfl⟩
          have hbt : Below wr.heap.size wr wt := by rw [hwt]; exact HB5.out.setCell (Nat.le_refl _) _
          have hblk : wt.heap[wr.heap.size]? = some (.cells #[.string nm, .int .i64 zx, .int .i64 zy, .slice qa m qc] 45 (0, 0)) := by rw [hwt, set_block _ _ _ _ _ _ HBLK5.out]; rfl
          have hot : wt.ownsRow B 3 1 (.slice qa m qc) m (z.args.map intV) := by rw [hwt]; exact owns_kept HO5.out (kept_setCell HBLK5.out _) (by decide)
          rw [← hwt]
          clear hwt g1 g2 HB5 HO5 HBLK5
          have hsT := HSTR.out.below hbt
          obtain ⟨d0, d1, d2⟩ := hsT.cells
          obtain ⟨xa, xc, rfl⟩ := owns_form hsT.o3
          have t0 : wt.cell? ⟨wr.heap.size, 0, none⟩ = some (.string nm) := by rw [Lib.cell_of_heap hblk]; rfl
          have t1 : wt.cell? ⟨wr.heap.size, 1, none⟩ = some (.int .i64 zx) := by rw [Lib.cell_of_heap hblk]; rfl
          have t2 : wt.cell? ⟨wr.heap.size, 2, none⟩ = some (.int .i64 zy) := by rw [Lib.cell_of_heap hblk]; rfl
          have t3 : wt.cell? ⟨wr.heap.size, 3, none⟩ = some (.slice qa m qc) := by rw [Lib.cell_of_heap hblk]; rfl
          obtain ⟨v', w7, hr7, k0, k1, ⟨ya, yn, yc, rfl⟩, hS, hBe⟩ := hsT.addStmt (by have := HN.out; simp; omega) z (.slice qa m qc) (by rw [← HM.out]; exact hot)
          rw [← HNM.out.1, ← HNM.out.2.1, ← HNM.out.2.2] at hr7
          have HS7 : Hid (St (w7.setCell ⟨pb, 2, none⟩ (.slice ya yn yc)) B pb { P with funs := P.funs, stmts := P.stmts.take (k + 1) } (.slice x1 m1 y1) u2 (.slice ya yn yc) ps (qs ++ [.slice qa m qc]) ∧ Below B W2 (w7.setCell ⟨pb, 2, none⟩ (.slice ya yn yc))) := by
            refine ⟨?_, (hB.trans (hbt.mono HSTR.out.size)).trans hBe⟩
            rw [take_snoc P.stmts default k (by rw [← HN.out.2.1]; exact hlt), ← HZ.out]
            exact hS
          obtain ⟨mk, hmk⟩ : ∃ m, m = ({ P with funs := P.funs, stmts := P.stmts.take k } : ProgD).stmts.length := ⟨_, rfl⟩
          rw [← hmk] at d2 hr7 k0
          have HR7 : Hid _ := hr7
          clear hS hBe hsT hbt hblk hot HSTR hmk d0 d1 hr7
          go_wp2_with (at_builtin; refine Lib.wpList_append_run _ rfl _ _ _ _ rfl _ _ rfl rfl _ _ HR7.out ?_)
          go_roundw
          case rel => exact ⟨k + 1, _, _, hlt, by go_num, HS7.out⟩
          case measure => simp [intOf]; omega
        · obtain rfl : k = n3 := by omega
          have hT : P.stmts.take k = P.stmts := by rw [HN.out.2.1]; exact List.take_length
          rw [hT] at hst
          have hblk := block_keep hBx HRB.out
          have f0 := frozen_of_block hblk 0
          have f1 := frozen_of_block hblk 1
          have f2 := frozen_of_block hblk 2
          have c0 := Lib.cell_of_heap hblk 0
          have c1 := Lib.cell_of_heap hblk 1
          have c2 := Lib.cell_of_heap hblk 2
          simp only [List.getElem?_toArray, List.getElem?_cons_zero, List.getElem?_cons_succ] at c0 c1 c2
          obtain ⟨d0, d1, d2⟩ := hst.cells
          obtain ⟨xa, xc, rfl⟩ := owns_form hst.o2
          obtain ⟨za, zc, rfl⟩ := owns_form hst.o3
          have HF : Hid (∀ x0 x1' x2, IsProg (((wr.setCell ⟨w.heap.size + 1, 0, none⟩ x0).setCell ⟨w.heap.size + 1, 1, none⟩ x1').setCell ⟨w.heap.size + 1, 2, none⟩ x2) (.slice x1 m1 y1) (.slice xa P.funs.length xc) (.slice za P.stmts.length zc) P ∧ Below w.heap.size w (((wr.setCell ⟨w.heap.size + 1, 0, none⟩ x0).setCell ⟨w.heap.size + 1, 1, none⟩ x1').setCell ⟨w.heap.size + 1, 2, none⟩ x2)) := fun x0 x1' x2 =>
            ⟨(hst.set3 hblk hr15 x0 x1' x2).isProg, ((hBw.setCell (Nat.le_succ _) _).setCell (Nat.le_succ _) _).setCell (Nat.le_succ _) _⟩
          obtain ⟨q2, hq2⟩ : ∃ m, m = P.funs.length := ⟨_, rfl⟩
          obtain ⟨q3, hq3⟩ : ∃ m, m = P.stmts.length := ⟨_, rfl⟩
          have d1' : wr.cell? ⟨pb, 1, none⟩ = some (.slice xa q2 xc) := by rw [d1, hq2]
          have d2' : wr.cell? ⟨pb, 2, none⟩ = some (.slice za q3 zc) := by rw [d2, hq3]
          rw [← hq2, ← hq3] at HF
          clear hst hblk hT hq2 hq3 d1 d2
          go_wp2_with fail
          refine bodyPost_ret (v := .agg #[.slice x1 m1 y1, .slice xa q2 xc, .slice za q3 zc]) (by simp [results, Tryz.results9, go_sem, c0, c1, c2]) rfl ?_
          exact ⟨_, _, _, rfl, (HF.out _ _ _).1, (HF.out _ _ _).2⟩
end Go.Proofs.YtglonlpfnllocaaGreatDoor

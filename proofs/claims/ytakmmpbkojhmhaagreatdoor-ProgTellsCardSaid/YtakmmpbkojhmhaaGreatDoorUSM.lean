/-
  The document's ReadProgram of a text within the bound, by a contract.
-/
import Derived.Test.YtakmmpbkojhmhaaGreatDoorXRM
import Derived.Deep.DeepCutAuto
namespace Go.Proofs.YtakmmpbkojhmhaaGreatDoor
open Go.RowKit Go.Extern.Stop Go.Stop Go.Extern

theorem below_aB {w0 w : World} {n : Nat} (h0 : n ≤ w0.heap.size) (h : Below n w0 w) (o : Obj) : Below n w0 (w.alloc o) := h.alloc (Nat.le_trans h0 h.size) o
theorem keepB {w0 w : World} {n p q i : Nat} {v0 v1 v2 v3 : Value} (k0 : w0.cell? ⟨p, 0, none⟩ = some v0) (k1 : w0.cell? ⟨p, 1, none⟩ = some v1) (k2 : w0.cell? ⟨p, 2, none⟩ = some v2) (k3 : w0.cell? ⟨q, i, none⟩ = some v3) (hp : p < n) (hq : q < n) (hb : Below n w0 w) :
    Below n w0 w ∧ w.cell? ⟨p, 0, none⟩ = some v0 ∧ w.cell? ⟨p, 1, none⟩ = some v1 ∧ w.cell? ⟨p, 2, none⟩ = some v2 ∧ w.cell? ⟨q, i, none⟩ = some v3 :=
  ⟨hb, (hb.cell (p := ⟨p, 0, none⟩) hp).trans k0, (hb.cell (p := ⟨p, 1, none⟩) hp).trans k1, (hb.cell (p := ⟨p, 2, none⟩) hp).trans k2, (hb.cell (p := ⟨q, i, none⟩) hq).trans k3⟩
theorem cutL_at_line (s : Bs) (i : Nat) (h : i < (linesOf s).1.length) : (cutL s).getD i [] = (linesOf s).1.getD i [] := by
  unfold cutL
  simp [List.getD, List.getElem?_append_left h]
theorem cutL_at_rest (s : Bs) : (cutL s).getD (linesOf s).1.length [] = (linesOf s).2 := by
  unfold cutL
  simp [List.getD]
theorem drop_at {α : Type} (l : List α) (d : α) (i : Nat) (h : i < l.length) : l.drop i = l.getD i d :: l.drop (i + 1) := by
  rw [List.drop_eq_getElem_cons h]
  simp [List.getD, h]
/-- A program that was read is no large one. -/
theorem held_small {P : ProgD} {i : Nat} (h : Held P i) (hi : i ≤ 4000) : SmallP P := ⟨by have := h.1.1; omega, by have := h.1.2.1; omega, by have := h.1.2.2; omega, fun f hf => Nat.le_trans (h.2.1 f hf) (by omega), fun q hq => Nat.le_trans (h.2.2 q hq) (by omega)⟩

theorem keep_o3 {w : World} {p r : Nat} {v0 v1 v2 x0 x1 x2 : Value} (h0 : w.cell? ⟨p, 0, none⟩ = some v0) (h1 : w.cell? ⟨p, 1, none⟩ = some v1) (h2 : w.cell? ⟨p, 2, none⟩ = some v2) (hn : p ≠ r) : (set3 w r x0 x1 x2).cell? ⟨p, 0, none⟩ = some v0 ∧ (set3 w r x0 x1 x2).cell? ⟨p, 1, none⟩ = some v1 ∧ (set3 w r x0 x1 x2).cell? ⟨p, 2, none⟩ = some v2 :=
  ⟨other_cell (other_cell (other_cell h0 hn) hn) hn, other_cell (other_cell (other_cell h1 hn) hn) hn, other_cell (other_cell (other_cell h2 hn) hn) hn⟩
theorem keep_o5 {w : World} {p r q : Nat} {v0 v1 v2 x0 x1 x2 f0 f1 : Value} (h0 : w.cell? ⟨p, 0, none⟩ = some v0) (h1 : w.cell? ⟨p, 1, none⟩ = some v1) (h2 : w.cell? ⟨p, 2, none⟩ = some v2) (hn : p ≠ r) (hm : p ≠ q) : (((set3 w r x0 x1 x2).setCell ⟨q, 0, none⟩ f0).setCell ⟨q, 1, none⟩ f1).cell? ⟨p, 0, none⟩ = some v0 ∧ (((set3 w r x0 x1 x2).setCell ⟨q, 0, none⟩ f0).setCell ⟨q, 1, none⟩ f1).cell? ⟨p, 1, none⟩ = some v1 ∧ (((set3 w r x0 x1 x2).setCell ⟨q, 0, none⟩ f0).setCell ⟨q, 1, none⟩ f1).cell? ⟨p, 2, none⟩ = some v2 := by
  obtain ⟨a, b, c⟩ := keep_o3 (x0 := x0) (x1 := x1) (x2 := x2) h0 h1 h2 hn
  exact ⟨other_cell (other_cell a hm) hm, other_cell (other_cell b hm) hm, other_cell (other_cell c hm) hm⟩
theorem Rq.setF {w : World} {B : Nat} {P : ProgD} {v1 v2 v3 : Value} {ps qs : List Value} (h : Rq w B P v1 v2 v3 ps qs) {r : Nat} {cs : Array Value} (hr : w.heap[r]? = some (.cells cs 47 (0, 0))) (i : Nat) (x : Value) : Rq (w.setCell ⟨r, i, none⟩ x) B P v1 v2 v3 ps qs := by
  have hk := kept_setCell (i := i) hr x
  exact ⟨by simpa using h.size, owns_kept h.o1 hk (by decide), h.l2, owns_kept h.o2 hk (by decide), fun j hj => (h.i2 j hj).kept hk (by decide), h.l3, owns_kept h.o3 hk (by decide), fun j hj => (h.i3 j hj).kept hk (by decide)⟩
theorem Rq.prog {w : World} {B pb : Nat} {P : ProgD} {v1 v2 v3 : Value} {ps qs : List Value} (h : Rq w B P v1 v2 v3 ps qs) (hb : w.heap[pb]? = some (.cells #[v1, v2, v3] 43 (0, 0))) : IsProg w v1 v2 v3 P := by
  have hp : Rp w 0 pb P v1 v2 v3 ps qs := ⟨Nat.zero_le _, hb, owns_mono h.o1 (Nat.zero_le _), h.l2, owns_mono h.o2 (Nat.zero_le _), h.i2, h.l3, owns_mono h.o3 (Nat.zero_le _), h.i3⟩
  exact hp.isProg
/-- The program that is read, behind the stores of the results. -/
theorem prog_five {w : World} {B pb n : Nat} {P : ProgD} {v1 v2 v3 : Value} {ps qs : List Value} (h : Rq w B P v1 v2 v3 ps qs) (hb : w.heap[pb]? = some (.cells #[v1, v2, v3] 43 (0, 0))) (h1 : w.heap[n]? = some zero3) (h2 : w.heap[n + 1]? = some zeroF) (hn1 : pb ≠ n) (hn2 : pb ≠ n + 1) (x0 x1 x2 f0 f1 : Value) :
    IsProg (((set3 w n x0 x1 x2).setCell ⟨n + 1, 0, none⟩ f0).setCell ⟨n + 1, 1, none⟩ f1) v1 v2 v3 P := by
  have r1 := h.set3 h1 x0 x1 x2
  have k : ∀ (c : Nat), c ≠ n → (set3 w n x0 x1 x2).heap[c]? = w.heap[c]? := fun c hc => by
    show (((w.setCell ⟨n, 0, none⟩ x0).setCell ⟨n, 1, none⟩ x1).setCell ⟨n, 2, none⟩ x2).heap[c]? = _
    rw [other_block (Ne.symm hc), other_block (Ne.symm hc), other_block (Ne.symm hc)]
  have e2 : (set3 w n x0 x1 x2).heap[n + 1]? = some zeroF := by rw [k _ (by omega)]; exact h2
  have r2 := (r1.setF e2 0 f0).setF (set_block _ _ _ _ _ _ e2 f0) 1 f1
  refine r2.prog (pb := pb) ?_
  rw [other_block (Ne.symm hn2), other_block (Ne.symm hn2), k _ hn1]
  exact hb
theorem rows_al {w : World} {B : Nat} {ER : Int} {Q : ProgD} {v1 v2 v3 : Value} (h : ER = 0 → ∃ pb ps qs, Rp w B pb Q v1 v2 v3 ps qs) (o : Obj) : ER = 0 → ∃ ps' qs', Rq (w.alloc o) B Q v1 v2 v3 ps' qs' := fun q => by
  obtain ⟨_, ps, qs, h⟩ := h q
  exact ⟨ps, qs, h.rows.below (below1 _ _)⟩
theorem rows_set {w : World} {B r : Nat} {ER : Int} {Q : ProgD} {v1 v2 v3 : Value} (h : ER = 0 → ∃ pb ps qs, Rp w B pb Q v1 v2 v3 ps qs) {cs : Array Value} (hr : w.heap[r]? = some (.cells cs 43 (0, 0))) (x0 x1 x2 : Value) : ER = 0 → ∃ ps' qs', Rq (set3 w r x0 x1 x2) B Q v1 v2 v3 ps' qs' := fun q => by
  obtain ⟨_, ps, qs, h⟩ := h q
  exact ⟨ps, qs, h.rows.set3 hr _ _ _⟩
set_option maxRecDepth 100000 in
set_option maxHeartbeats 8000000 in
theorem refRead_short (s : Bs) (w : World) (hl : s.length ≤ 4000) :
    Calls Tryz.prog 39 #[.string (S s)] w fun e w' => ∃ u1 u2 u3, e = .returned (.tuple #[.agg #[u1, u2, u3], .agg #[.int .i64 (codeE (readD s).2), .int .i64 (placeE (readD s).2)]]) ∧ IsProg w' u1 u2 u3 (readD s).1 ∧ Below w.heap.size w w' := by
  obtain ⟨b, hb⟩ : ∃ b, b = S s := ⟨_, rfl⟩
  have hbz : ¬ (4000 : Int) < b.size := by rw [hb, S_size]; omega
  have hbz2 : b.size ≤ 100000 := by rw [hb, S_size]; omega
  have hbd : b.data.toList = s := by rw [hb, S_data]
  rw [← hb]
  obtain ⟨W, hW⟩ : ∃ W, W = (w.alloc zero3).alloc zeroF := ⟨_, rfl⟩
  have hBW : Below w.heap.size w W := by rw [hW]; exact (below1 w _).alloc (by simp) _
  have hz1 : W.heap[w.heap.size]? = some zero3 := by rw [hW]; exact block_keep (below1 _ _) (heap_new w _)
  have hz2 : W.heap[w.heap.size + 1]? = some zeroF := by
    rw [hW]
    have := heap_new (w.alloc zero3) zeroF
    simpa using this
  have K1 : Hid (Calls Tryz.prog 56 #[.string b, .int .u8 10] W fun e w' => ∃ v' : Value, e = .returned v' ∧ w'.ownsRow W.heap.size 9 1 v' (cutL s).length ((cutL s).map strV) ∧ Below W.heap.size W w') := by
    refine (refCut_any b W hbz2).mono fun e w' ⟨v, h1, _, h2, h3⟩ => ?_
    rw [hbd] at h2
    exact ⟨v, h1, h2, h3⟩
  have H1 : Hid (W.heap[w.heap.size]? = some zero3 ∧ W.heap[w.heap.size + 1]? = some zeroF) := ⟨hz1, hz2⟩
  have HSL : Hid (s.length ≤ 4000) := hl
  clear hb hl hz1 hz2 hbd
  go_enter Tryz.func39, Tryz.ntmps39
  go_wp2_with fail
  rw [← hW]
  clear hW
  refine K1.out.mono ?_
  rintro e W1 ⟨v4, rfl, hrow, hb1⟩
  obtain ⟨ls, hls⟩ : ∃ ls, ls = (linesOf s).1 := ⟨_, rfl⟩
  obtain ⟨rest, hrest⟩ : ∃ r, r = (linesOf s).2 := ⟨_, rfl⟩
  obtain ⟨n, hn⟩ : ∃ n, n = ls.length := ⟨_, rfl⟩
  have hcl : (cutL s).length = n + 1 := by unfold cutL; simp [hn, hls]
  rw [hcl] at hrow
  obtain ⟨lea1, lea2, lea3⟩ := lines_each s
  have hn4 : n ≤ 4000 := by have := HSL.out; rw [hn, hls]; omega
  have HLS : Hid (ls = (linesOf s).1 ∧ rest = (linesOf s).2 ∧ n = ls.length ∧ (∀ x ∈ ls, x.length ≤ 4000)) := ⟨hls, hrest, hn, fun x hx => by have := HSL.out; rw [hls] at hx; have := lea1 x hx; omega⟩
  obtain ⟨cb, cc, rfl, hccn⟩ : ∃ cb cc, v4 = .slice (some ⟨cb, 0, none⟩) (n + 1) cc ∧ n + 1 ≤ cc := by
    rcases hrow.2 with ⟨-, q⟩ | ⟨g, cap, cur, q, -, -, h5, -⟩
    · omega
    · exact ⟨g, cap, q, h5⟩
  have hcb : cb < W1.heap.size := (hrow.lt cb rfl).2
  have HROW : Hid (∀ j, j < n + 1 → W1.cell? ⟨cb, j, none⟩ = some (.string (S ((cutL s).getD j [])))) := fun j hj => by
    obtain ⟨a', c', q, -, hc⟩ := isStrs_of_owns hrow
    obtain ⟨b', o', q1, q2⟩ := hc j (by rw [hcl]; exact hj)
    have q3 := (Value.slice.inj q).1
    rw [q1] at q3
    cases q3
    rw [Nat.zero_add] at q2
    exact q2
  obtain ⟨W2, hW2⟩ : ∃ W2, W2 = W1.alloc zero3 := ⟨_, rfl⟩
  have hz2s : W2.heap.size = W1.heap.size + 1 := by rw [hW2]; simp
  have HP0 : Hid (W2.heap[W1.heap.size]? = some zero3) := by show _ = _; rw [hW2]; exact heap_new W1 _
  have HB2 : Hid (Below W1.heap.size W1 W2) := by show Below _ _ _; rw [hW2]; exact below1 W1 _
  have HZ1 : Hid (W1.heap[w.heap.size]? = some zero3 ∧ W1.heap[w.heap.size + 1]? = some zeroF) := ⟨block_keep hb1 H1.out.1, block_keep hb1 H1.out.2⟩
  have HB1 : Hid (Below w.heap.size w W1) := hBW.trans (hb1.mono hBW.size)
  have HQ0 : Hid (Rq W2 (W1.heap.size + 1) noProg (.slice none 0 0) (.slice none 0 0) (.slice none 0 0) [] []) := ⟨by omega, World.ownsRow_nil _ _ _ _, rfl, World.ownsRow_nil _ _ _ _, fun _ hj => absurd hj (Nat.not_lt_zero _), rfl, World.ownsRow_nil _ _ _ _, fun _ hj => absurd hj (Nat.not_lt_zero _)⟩
  have HW12 : Hid (w.heap.size + 1 < W1.heap.size) := (Array.getElem?_eq_some_iff.1 HZ1.out.2).1
  have hni : (n : Int) < ((n + 1 : Nat) : Int) := by omega
  clear K1 H1 hrow hb1 hls hrest hn hcl lea1 lea2 lea3 hz2s hBW hbz
  obtain ⟨nX, hnX⟩ : ∃ m, m = n + 1 := ⟨_, rfl⟩
  rw [← hnX] at hni hccn ⊢
  have hsub : IntKind.i64.wrap ((nX : Int) - 1) = (n : Int) := by rw [IntKind.wrap_i64]; omega
  have HNX : Hid (nX = n + 1) := hnX
  have hnX0 : nX ≤ 4001 := by omega
  clear hnX
  go_wp2_with fail
  rw [← hW2]
  clear hW2
  go_loopw [6, 7] (fun sp t wr => ∃ (i : Nat) (P : ProgD) (ps qs : List Value) (a1 : Option Addr) (m1 n1 : Nat) (a2 : Option Addr) (m2 n2 : Nat) (a3 : Option Addr) (m3 n3 : Nat), i ≤ n ∧ t = .int .i64 i ∧ sp = .int .i64 (partOf P) ∧ linesD noProg 0 s = goLines P i rest (ls.drop i) ∧ Held P i ∧ HeldN P ∧ wr.heap[W1.heap.size]? = some (.cells #[.slice a1 m1 n1, .slice a2 m2 n2, .slice a3 m3 n3] 43) ∧ Rq wr (W1.heap.size + 1) P (.slice a1 m1 n1) (.slice a2 m2 n2) (.slice a3 m3 n3) ps qs ∧ Below W1.heap.size W1 wr) (fun _ t _ => (n - intOf t).toNat)
  case atStart => exact ⟨0, noProg, [], [], _, _, _, _, _, _, _, _, _, Nat.zero_le _, rfl, rfl, by rw [HLS.out.1, HLS.out.2.1]; rfl, ⟨⟨Nat.le_refl _, Nat.le_refl _, Nat.le_refl _⟩, fun _ hf => absurd hf List.not_mem_nil, fun _ hf => absurd hf List.not_mem_nil⟩, ⟨fun _ hf => absurd hf List.not_mem_nil, fun _ hf => absurd hf List.not_mem_nil⟩, HP0.out, HQ0.out, HB2.out⟩
  case round =>
  obtain ⟨i, P, ps, qs, a1, m1, n1, a2, m2, n2, a3, m3, n3, hi, rfl, rfl, hgo, hheld, hheldN, hblk, hrq, hwr⟩ := hrel
  have c0 : wr.cell? ⟨W1.heap.size, 0, none⟩ = some (.slice a1 m1 n1) := by rw [Lib.cell_of_heap hblk]; rfl
  have c1 : wr.cell? ⟨W1.heap.size, 1, none⟩ = some (.slice a2 m2 n2) := by rw [Lib.cell_of_heap hblk]; rfl
  have c2 : wr.cell? ⟨W1.heap.size, 2, none⟩ = some (.slice a3 m3 n3) := by rw [Lib.cell_of_heap hblk]; rfl
  have HG : Hid (linesD noProg 0 s = goLines P i rest (ls.drop i) ∧ Held P i ∧ HeldN P) := ⟨hgo, hheld, hheldN⟩
  have HRQ : Hid (Rq wr (W1.heap.size + 1) P (.slice a1 m1 n1) (.slice a2 m2 n2) (.slice a3 m3 n3) ps qs) := hrq
  have HBK : Hid (wr.heap[W1.heap.size]? = some (.cells #[.slice a1 m1 n1, .slice a2 m2 n2, .slice a3 m3 n3] 43)) := hblk
  have HWR : Hid (Below W1.heap.size W1 wr ∧ W1.heap.size + 1 ≤ wr.heap.size) := ⟨hwr, hrq.size⟩
  clear hgo hheld hheldN hblk hrq hwr HP0 HB2 HQ0
  obtain ⟨part, hpart⟩ : ∃ p, p = partOf P := ⟨_, rfl⟩
  rw [← hpart]
  have HPT : Hid (part = partOf P) := hpart
  clear hpart
  by_cases hlt : i < n
  · have hil : i < ls.length := by rw [← HLS.out.2.2.1]; exact hlt
    obtain ⟨x, hx⟩ : ∃ x, x = ls.getD i [] := ⟨_, rfl⟩
    have hx4 : x.length ≤ 4000 := HLS.out.2.2.2 x (by rw [hx]; simp [List.getD, hil])
    have hcell := HROW.out i (by omega)
    rw [cutL_at_line s i (by rw [← HLS.out.1]; exact hil), ← HLS.out.1, ← hx] at hcell
    have e0 : wr.cell? ⟨cb, i, none⟩ = some (.string (S x)) := cell_keep HWR.out.1 hcell
    obtain ⟨bx, hbx⟩ : ∃ b, b = S x := ⟨_, rfl⟩
    rw [← hbx] at e0
    have KR : Hid (∀ wx, Below wr.heap.size wr wx → Calls Tryz.prog 80 #[.agg #[.slice a1 m1 n1, .slice a2 m2 n2, .slice a3 m3 n3], .string bx] wx fun e w' => LinePost (W1.heap.size + 1) wx w' P x e) := fun wx hb => by
      rw [hbx]
      exact refLine_any x wx (HRQ.out.below hb) (by omega) (held_small HG.out.2.1 (by omega))
    obtain ⟨AT, hAT⟩ : ∃ z, z = lineAt x := ⟨_, rfl⟩
    obtain ⟨ER, hER⟩ : ∃ z, z = lineEr P x := ⟨_, rfl⟩
    obtain ⟨Q, hQ⟩ : ∃ z, z = lineQ P x := ⟨_, rfl⟩
    unfold LinePost at KR
    rw [← hAT, ← hER, ← hQ] at KR
    have HX : Hid (AT = lineAt x ∧ ER = lineEr P x ∧ Q = lineQ P x ∧ x = ls.getD i [] ∧ x.length ≤ 4000 ∧ i < ls.length) := ⟨hAT, hER, hQ, hx, hx4, hil⟩
    have hii : (i : Int) < nX := by omega
    have hp1 : W1.heap.size < W1.heap.size + 1 := Nat.lt_succ_self _
    have hq1 : cb < W1.heap.size + 1 := by omega
    clear hAT hER hQ hx hx4 hcell hbx hil
    go_upto_region 9 with fail
    go_cut [8, 9, 10] (fun s8 s9 s10 wx => ∃ (qb : Nat) (b1 : Option Addr) (k1 r1 : Nat) (b2 : Option Addr) (k2 r2 : Nat) (b3 : Option Addr) (k3 r3 : Nat), s8 = .pointer (some ⟨qb, 0, none⟩) ∧ s9 = .int .i64 AT ∧ s10 = .int .i64 ER ∧ Box3 wx qb (.slice b1 k1 r1) (.slice b2 k2 r2) (.slice b3 k3 r3) ∧ (ER = 0 → ∃ ps' qs', Rq wx (W1.heap.size + 1) Q (.slice b1 k1 r1) (.slice b2 k2 r2) (.slice b3 k3 r3) ps' qs') ∧ Below (W1.heap.size + 1) wr wx)
    case first =>
      go_region_held3 (fun wx => Below (W1.heap.size + 1) wr wx ∧ wx.cell? ⟨W1.heap.size, 0, none⟩ = some (.slice a1 m1 n1) ∧ wx.cell? ⟨W1.heap.size, 1, none⟩ = some (.slice a2 m2 n2) ∧ wx.cell? ⟨W1.heap.size, 2, none⟩ = some (.slice a3 m3 n3) ∧ wx.cell? ⟨cb, i, none⟩ = some (.string bx))
        ((go_split_ands; refine keepB c0 c1 c2 e0 hp1 hq1 ?_; repeat (with_reducible first | assumption | exact Below.refl _ _ | refine Below.drew ?_ | refine below_aB HWR.out.2 ?_ _ | refine below_setu ?_ HWR.out.2)))
        ((go_at_call 80; refine (KR.out _ ?_).mono ?_; (repeat (with_reducible first | exact Below.refl _ _ | refine Below.drew ?_ | refine below_au ?_ _)); rintro e w5 ⟨b1, k1, r1, b2, k2, r2, b3, k3, r3, rfl, hq5, hb5, hk5⟩; have HQ5 : Hid (ER = 0 → ∃ pb ps qs, Rp w5 (W1.heap.size + 1) pb Q (.slice b1 k1 r1) (.slice b2 k2 r2) (.slice b3 k3 r3) ps qs) := hq5; clear hq5; (try (have hz5 := hk5 _ _ (show ((wr.alloc zero3).drew).heap[wr.heap.size]? = some zero3 from heap_new wr _); have HZ5 : Hid (w5.heap[wr.heap.size]? = some zero3) := hz5; have z0 : w5.cell? ⟨wr.heap.size, 0, none⟩ = some (.slice none 0 0) := (by rw [Lib.cell_of_heap hz5]; rfl); have z1 : w5.cell? ⟨wr.heap.size, 1, none⟩ = some (.slice none 0 0) := (by rw [Lib.cell_of_heap hz5]; rfl); have z2 : w5.cell? ⟨wr.heap.size, 2, none⟩ = some (.slice none 0 0) := (by rw [Lib.cell_of_heap hz5]; rfl); have y0 := frozen_of_block hz5 0; have y1 := frozen_of_block hz5 1; have y2 := frozen_of_block hz5 2; clear hz5)); have hb5w : Below (W1.heap.size + 1) wr w5 := (Below.trans (by repeat (with_reducible first | exact Below.refl _ _ | refine Below.drew ?_ | refine below_aB HWR.out.2 ?_ _)) hb5); clear hb5 hk5))
      all_goals (go_wp2_with fail; go_meet)
      all_goals first
        | with_reducible exact ⟨w5.heap.size, b1, k1, r1, b2, k2, r2, b3, k3, r3, rfl, rfl, rfl, box3_new w5 _ _ _ _, rows_al HQ5.out _, below_aB HWR.out.2 hb5w _⟩
        | exact ⟨wr.heap.size, b1, k1, r1, b2, k2, r2, b3, k3, r3, rfl, rfl, rfl, res_cells HZ5.out _ _ _, rows_set HQ5.out HZ5.out _ _ _, below_setu (below_setu (below_setu hb5w HWR.out.2) HWR.out.2) HWR.out.2⟩
    case rest =>
    obtain ⟨qb, b1, k1, r1, b2, k2, r2, b3, k3, r3, rfl, rfl, rfl, hbox, hq, hwx⟩ := hcut
    obtain ⟨q0, q1, q2⟩ := hbox
    have HQ : Hid (ER = 0 → ∃ ps' qs', Rq wc (W1.heap.size + 1) Q (.slice b1 k1 r1) (.slice b2 k2 r2) (.slice b3 k3 r3) ps' qs') := hq
    have hB1c : Below W1.heap.size W1 wc := HWR.out.1.trans (hwx.mono (Nat.le_succ _))
    have HZc : Hid (wc.heap[w.heap.size]? = some zero3 ∧ wc.heap[w.heap.size + 1]? = some zeroF) := ⟨block_keep hB1c HZ1.out.1, block_keep hB1c HZ1.out.2⟩
    have HBc : Hid (Below w.heap.size w wc ∧ Below W1.heap.size W1 wc ∧ Below (W1.heap.size + 1) wr wc) := ⟨HB1.out.trans (hB1c.mono HB1.out.size), hB1c, hwx⟩
    have HBKc : Hid (wc.heap[W1.heap.size]? = some (.cells #[.slice a1 m1 n1, .slice a2 m2 n2, .slice a3 m3 n3] 43)) := by show _ = _; rw [hwx.block _ (Nat.lt_succ_self _)]; exact HBK.out
    have z0 : wc.cell? ⟨w.heap.size, 0, none⟩ = some (.slice none 0 0) := by rw [Lib.cell_of_heap HZc.out.1]; rfl
    have z1 : wc.cell? ⟨w.heap.size, 1, none⟩ = some (.slice none 0 0) := by rw [Lib.cell_of_heap HZc.out.1]; rfl
    have z2 : wc.cell? ⟨w.heap.size, 2, none⟩ = some (.slice none 0 0) := by rw [Lib.cell_of_heap HZc.out.1]; rfl
    have z3 : wc.cell? ⟨w.heap.size + 1, 0, none⟩ = some (.int .i64 0) := by rw [Lib.cell_of_heap HZc.out.2]; rfl
    have z4 : wc.cell? ⟨w.heap.size + 1, 1, none⟩ = some (.int .i64 0) := by rw [Lib.cell_of_heap HZc.out.2]; rfl
    have y0 := frozen_of_block HZc.out.1 0
    have y1 := frozen_of_block HZc.out.1 1
    have y2 := frozen_of_block HZc.out.1 2
    have y3 := frozen_of_block HZc.out.2 0
    have y4 := frozen_of_block HZc.out.2 1
    have p0 : wc.cell? ⟨W1.heap.size, 0, none⟩ = some (.slice a1 m1 n1) := by rw [Lib.cell_of_heap HBKc.out]; rfl
    have p1 : wc.cell? ⟨W1.heap.size, 1, none⟩ = some (.slice a2 m2 n2) := by rw [Lib.cell_of_heap HBKc.out]; rfl
    have p2 : wc.cell? ⟨W1.heap.size, 2, none⟩ = some (.slice a3 m3 n3) := by rw [Lib.cell_of_heap HBKc.out]; rfl
    have x0 := frozen_of_block HBKc.out 0
    have x1 := frozen_of_block HBKc.out 1
    have x2 := frozen_of_block HBKc.out 2
    have hgo := HG.out.1
    rw [drop_at ls [] i HX.out.2.2.2.2.2, ← HX.out.2.2.2.1] at hgo
    have HGO : Hid (linesD noProg 0 s = goLines P i rest (x :: ls.drop (i + 1))) := hgo
    have HF : Hid (∀ c : Int, (AT < part ∧ c = 1 ∨ (¬ AT < part ∧ ER = c ∧ c ≠ 0)) → codeE (readD s).2 = c ∧ placeE (readD s).2 = i ∧ (readD s).1 = noProg) := fun c h => by
      rw [HX.out.1, HX.out.2.1, HPT.out] at h
      obtain ⟨f1, f2, f3⟩ := go_stop P i rest x (ls.drop (i + 1)) c h
      rw [← HGO.out] at f1 f2 f3
      rw [read_of_lines HSL.out f3]
      exact ⟨f1, f2, rfl⟩
    have hec := lineEr_cases P x
    rw [← HX.out.2.1] at hec
    clear hq hwx hB1c hgo c0 c1 c2 e0 KR hp1 hq1
    by_cases hat : AT < part
    · have HFF := HF.out 1 (Or.inl ⟨hat, rfl⟩)
      have HF1 : Hid (codeE (readD s).2 = 1 ∧ placeE (readD s).2 = i ∧ (readD s).1 = noProg) := HFF
      clear HFF hec
      go_wp2_with fail
      obtain ⟨rr0, rr1, rr2, rr3, rr4⟩ := res5 HZc.out.1 HZc.out.2 (.slice none 0 0) (.slice none 0 0) (.slice none 0 0) (.int .i64 1) (.int .i64 (i : Int))
      refine bodyPost_ret (v := .tuple #[.agg #[.slice none 0 0, .slice none 0 0, .slice none 0 0], .agg #[.int .i64 1, .int .i64 (i : Int)]]) (by simp [results, Tryz.results39, go_sem, rr0, rr1, rr2, rr3, rr4]) rfl ?_
      exact ⟨_, _, _, by rw [HF1.out.1, HF1.out.2.1], by rw [HF1.out.2.2]; exact noProg_rows _, ((below_set3 HBc.out.1 (Nat.le_refl _) _ _ _).setCell (by simp) _).setCell (by simp) _⟩
    · rcases hec with rfl | rfl | rfl
      case inr.inl =>
        have HFF := HF.out 1 (Or.inr ⟨hat, rfl, by decide⟩)
        have HF1 : Hid (codeE (readD s).2 = 1 ∧ placeE (readD s).2 = i ∧ (readD s).1 = noProg) := HFF
        clear HFF
        go_wp2_with fail
        obtain ⟨rr0, rr1, rr2, rr3, rr4⟩ := res5 HZc.out.1 HZc.out.2 (.slice none 0 0) (.slice none 0 0) (.slice none 0 0) (.int .i64 1) (.int .i64 (i : Int))
        refine bodyPost_ret (v := .tuple #[.agg #[.slice none 0 0, .slice none 0 0, .slice none 0 0], .agg #[.int .i64 1, .int .i64 (i : Int)]]) (by simp [results, Tryz.results39, go_sem, rr0, rr1, rr2, rr3, rr4]) rfl ?_
        exact ⟨_, _, _, by rw [HF1.out.1, HF1.out.2.1], by rw [HF1.out.2.2]; exact noProg_rows _, ((below_set3 HBc.out.1 (Nat.le_refl _) _ _ _).setCell (by simp) _).setCell (by simp) _⟩
      case inr.inr =>
        have HFF := HF.out 6 (Or.inr ⟨hat, rfl, by decide⟩)
        have HF1 : Hid (codeE (readD s).2 = 6 ∧ placeE (readD s).2 = i ∧ (readD s).1 = noProg) := HFF
        clear HFF
        go_wp2_with fail
        obtain ⟨rr0, rr1, rr2, rr3, rr4⟩ := res5 HZc.out.1 HZc.out.2 (.slice none 0 0) (.slice none 0 0) (.slice none 0 0) (.int .i64 6) (.int .i64 (i : Int))
        refine bodyPost_ret (v := .tuple #[.agg #[.slice none 0 0, .slice none 0 0, .slice none 0 0], .agg #[.int .i64 6, .int .i64 (i : Int)]]) (by simp [results, Tryz.results39, go_sem, rr0, rr1, rr2, rr3, rr4]) rfl ?_
        exact ⟨_, _, _, by rw [HF1.out.1, HF1.out.2.1], by rw [HF1.out.2.2]; exact noProg_rows _, ((below_set3 HBc.out.1 (Nat.le_refl _) _ _ _).setCell (by simp) _).setCell (by simp) _⟩
      case inl =>
        have HAT : Hid (¬ lineAt x < partOf P) := by
          show ¬ _
          rw [← HX.out.1, ← HPT.out]; exact hat
        obtain ⟨o1, o2⟩ := go_on P i rest x (ls.drop (i + 1)) HAT.out HX.out.2.1.symm
        have HON : Hid (linesD noProg 0 s = goLines Q (i + 1) rest (ls.drop (i + 1)) ∧ Held Q (i + 1) ∧ HeldN Q ∧ AT = partOf Q) := by
          refine ⟨by rw [HGO.out, o1, HX.out.2.2.1], ?_, ?_, ?_⟩
          · have := readLine_held P i x HG.out.2.1 HX.out.2.2.2.2.1
            rw [o2, ← HX.out.2.2.1] at this
            exact this
          · rw [HX.out.2.2.1]; exact lineQ_names P x HG.out.2.2 HX.out.2.2.2.2.1
          · rw [HX.out.2.2.1, part_next P x HAT.out]; exact HX.out.1
        obtain ⟨ps', qs', hrq'⟩ := HQ.out rfl
        have HRQ' : Hid (Rq wc (W1.heap.size + 1) Q (.slice b1 k1 r1) (.slice b2 k2 r2) (.slice b3 k3 r3) ps' qs') := hrq'
        clear o1 o2 hrq'
        go_wp2_with fail
        go_roundw
        case rel => exact ⟨i + 1, Q, ps', qs', b1, k1, r1, b2, k2, r2, b3, k3, r3, hlt, by go_num, by rw [← HON.out.2.2.2], HON.out.1, HON.out.2.1, HON.out.2.2.1, by { rw [set_block _ _ _ _ _ _ (set_block _ _ _ _ _ _ (set_block _ _ _ _ _ _ HBKc.out _) _) _]; rfl }, HRQ'.out.set3 HBKc.out _ _ _, below_set3 HBc.out.2.1 (Nat.le_refl _) _ _ _⟩
        case measure => simp [intOf]; omega
  · obtain rfl : n = i := by omega
    have hcell := HROW.out n (by omega)
    have hrs : (cutL s).getD n [] = rest := by rw [HLS.out.2.2.1, HLS.out.1, cutL_at_rest s, HLS.out.2.1]
    rw [hrs] at hcell
    have e0 : wr.cell? ⟨cb, n, none⟩ = some (.string (S rest)) := cell_keep HWR.out.1 hcell
    obtain ⟨br, hbr⟩ : ∃ b, b = S rest := ⟨_, rfl⟩
    rw [← hbr] at e0
    obtain ⟨D, hD⟩ : ∃ D, (br.toList == []) = D := ⟨_, rfl⟩
    have HDR : Hid (D = rest.isEmpty) := by
      show _ = _
      rw [← hD, hbr, S_toList]
      cases rest <;> rfl
    have HGN : Hid (linesD noProg 0 s = if rest.isEmpty then (P, none) else (P, some (0, (n : Int)))) := by
      show _ = _
      rw [HG.out.1, List.drop_of_length_le (by rw [← HLS.out.2.2.1]; exact Nat.le_refl _)]
      rfl
    have HZr : Hid (wr.heap[w.heap.size]? = some zero3 ∧ wr.heap[w.heap.size + 1]? = some zeroF) := ⟨block_keep HWR.out.1 HZ1.out.1, block_keep HWR.out.1 HZ1.out.2⟩
    have HBr : Hid (Below w.heap.size w wr) := HB1.out.trans (HWR.out.1.mono HB1.out.size)
    clear hcell hrs hbr
    cases D with
    | false =>
      have z0 : wr.cell? ⟨w.heap.size, 0, none⟩ = some (.slice none 0 0) := by rw [Lib.cell_of_heap HZr.out.1]; rfl
      have z1 : wr.cell? ⟨w.heap.size, 1, none⟩ = some (.slice none 0 0) := by rw [Lib.cell_of_heap HZr.out.1]; rfl
      have z2 : wr.cell? ⟨w.heap.size, 2, none⟩ = some (.slice none 0 0) := by rw [Lib.cell_of_heap HZr.out.1]; rfl
      have z3 : wr.cell? ⟨w.heap.size + 1, 0, none⟩ = some (.int .i64 0) := by rw [Lib.cell_of_heap HZr.out.2]; rfl
      have z4 : wr.cell? ⟨w.heap.size + 1, 1, none⟩ = some (.int .i64 0) := by rw [Lib.cell_of_heap HZr.out.2]; rfl
      have y0 := frozen_of_block HZr.out.1 0
      have y1 := frozen_of_block HZr.out.1 1
      have y2 := frozen_of_block HZr.out.1 2
      have y3 := frozen_of_block HZr.out.2 0
      have y4 := frozen_of_block HZr.out.2 1
      have HF1 : Hid (codeE (readD s).2 = 1 ∧ placeE (readD s).2 = n ∧ (readD s).1 = noProg) := by
        have h2 : linesD noProg 0 s = (P, some (0, (n : Int))) := by rw [HGN.out, ← HDR.out]; rfl
        have h3 := read_of_lines HSL.out (by rw [h2]; rfl)
        rw [h2] at h3
        show _ ∧ _
        rw [h3]
        exact ⟨rfl, rfl, rfl⟩
      go_wp2_with fail
      obtain ⟨rr0, rr1, rr2, rr3, rr4⟩ := res5 HZr.out.1 HZr.out.2 (.slice none 0 0) (.slice none 0 0) (.slice none 0 0) (.int .i64 1) (.int .i64 (n : Int))
      refine bodyPost_ret (v := .tuple #[.agg #[.slice none 0 0, .slice none 0 0, .slice none 0 0], .agg #[.int .i64 1, .int .i64 (n : Int)]]) (by simp [results, Tryz.results39, go_sem, rr0, rr1, rr2, rr3, rr4]) rfl ?_
      exact ⟨_, _, _, by rw [HF1.out.1, HF1.out.2.1], by rw [HF1.out.2.2]; exact noProg_rows _, ((below_set3 HBr.out (Nat.le_refl _) _ _ _).setCell (by simp) _).setCell (by simp) _⟩
    | true =>
      have hlin : linesD noProg 0 s = (P, none) := by rw [HGN.out, ← HDR.out]; rfl
      have hread := read_of_check HSL.out hlin
      have HSP : Hid (SmallP P) := held_small HG.out.2.1 (by omega)
      have HSN : Hid (SmallN P) := ⟨fun v hv => Nat.le_trans (HG.out.2.2.1 v hv) (by omega), fun f hf => Nat.le_trans (HG.out.2.2.2 f hf) (by omega)⟩
      have HPR : Hid (IsProg wr (.slice a1 m1 n1) (.slice a2 m2 n2) (.slice a3 m3 n3) P) := by
        have h := HRQ.out
        have hp : Rp wr W1.heap.size W1.heap.size P (.slice a1 m1 n1) (.slice a2 m2 n2) (.slice a3 m3 n3) ps qs := ⟨Nat.le_refl _, HBK.out, owns_mono h.o1 (Nat.le_succ _), h.l2, owns_mono h.o2 (Nat.le_succ _), h.i2, h.l3, owns_mono h.o3 (Nat.le_succ _), h.i3⟩
        exact hp.isProg
      have HRD : Hid (readD s = match checkE P with | some e => (noProg, bareE (some e)) | none => (P, none)) := hread
      have KF : Hid (Calls Tryz.prog 26 #[.agg #[.slice a1 m1 n1, .slice a2 m2 n2, .slice a3 m3 n3]] wr fun e w' => e = .returned (.agg #[.int .i64 (codeE (checkE P)), .int .i64 (placeE (checkE P))]) ∧ Below wr.heap.size wr w') := refFault_any P _ _ _ wr HSP.out HSN.out HPR.out
      obtain ⟨ce, hce⟩ : ∃ z, z = codeE (checkE P) := ⟨_, rfl⟩
      obtain ⟨pe, hpe⟩ : ∃ z, z = placeE (checkE P) := ⟨_, rfl⟩
      rw [← hce, ← hpe] at KF
      have HCE : Hid (ce = codeE (checkE P)) := hce
      clear hlin hread hce hpe
      go_wp2_with fail
      refine KF.out.mono ?_
      rintro e w6 ⟨rfl, hb6⟩
      have HB6 : Hid (Below wr.heap.size wr w6) := hb6
      have HB6w : Hid (Below w.heap.size w w6) := HBr.out.trans (hb6.mono HBr.out.size)
      clear hb6 KF e0
      obtain ⟨W7, hW7⟩ : ∃ W7, W7 = w6.alloc (.cells #[.int .i64 ce, .int .i64 pe] 47) := ⟨_, rfl⟩
      have HB7 : Hid (Below w6.heap.size w6 W7 ∧ Below w.heap.size w W7 ∧ Below wr.heap.size wr W7) := by
        have h1 : Below w6.heap.size w6 W7 := by rw [hW7]; exact below1 w6 _
        exact ⟨h1, HB6w.out.trans (h1.mono HB6w.out.size), HB6.out.trans (h1.mono HB6.out.size)⟩
      have g0 : W7.cell? ⟨w6.heap.size, 0, none⟩ = some (.int .i64 ce) := by rw [hW7]; simp
      have HZ7 : Hid (W7.heap[w.heap.size]? = some zero3 ∧ W7.heap[w.heap.size + 1]? = some zeroF) := ⟨block_keep HB7.out.2.2 HZr.out.1, block_keep HB7.out.2.2 HZr.out.2⟩
      have p0 := cell_keep HB7.out.2.2 c0
      have p1 := cell_keep HB7.out.2.2 c1
      have p2 := cell_keep HB7.out.2.2 c2
      go_upto_region 19 with fail
      rw [← hW7]
      clear hW7 c0 c1 c2
      cases hck : checkE P with
      | some er =>
        have hce : ce = (er.1 : Int) + 1 := by rw [HCE.out, hck]; rfl
        have hce0 : (0 : Int) < ce := by omega
        have HF1 : Hid (codeE (readD s).2 = ce ∧ placeE (readD s).2 = -1 ∧ (readD s).1 = noProg) := by
          have := HRD.out
          rw [hck] at this
          show _ ∧ _
          rw [this, hce]
          exact ⟨rfl, rfl, rfl⟩
        have KB : Hid (Calls Tryz.prog 60 #[.int .i64 ce] W7 fun e w' => e = .returned (.agg #[.int .i64 ce, .int .i64 (-1)]) ∧ Below W7.heap.size W7 w') := bare_ref ce W7
        clear hck hce HCE HRD
        go_wp2_with fail
        refine KB.out.mono ?_
        rintro e w9 ⟨rfl, hb9⟩
        have HZ9 : Hid (w9.heap[w.heap.size]? = some zero3 ∧ w9.heap[w.heap.size + 1]? = some zeroF) := ⟨block_keep hb9 HZ7.out.1, block_keep hb9 HZ7.out.2⟩
        have HB9 : Hid (Below w.heap.size w w9) := HB7.out.2.1.trans (hb9.mono HB7.out.2.1.size)
        have z0 : w9.cell? ⟨w.heap.size, 0, none⟩ = some (.slice none 0 0) := by rw [Lib.cell_of_heap HZ9.out.1]; rfl
        have z1 : w9.cell? ⟨w.heap.size, 1, none⟩ = some (.slice none 0 0) := by rw [Lib.cell_of_heap HZ9.out.1]; rfl
        have z2 : w9.cell? ⟨w.heap.size, 2, none⟩ = some (.slice none 0 0) := by rw [Lib.cell_of_heap HZ9.out.1]; rfl
        have z3 : w9.cell? ⟨w.heap.size + 1, 0, none⟩ = some (.int .i64 0) := by rw [Lib.cell_of_heap HZ9.out.2]; rfl
        have z4 : w9.cell? ⟨w.heap.size + 1, 1, none⟩ = some (.int .i64 0) := by rw [Lib.cell_of_heap HZ9.out.2]; rfl
        have y0 := frozen_of_block HZ9.out.1 0
        have y1 := frozen_of_block HZ9.out.1 1
        have y2 := frozen_of_block HZ9.out.1 2
        have y3 := frozen_of_block HZ9.out.2 0
        have y4 := frozen_of_block HZ9.out.2 1
        clear hb9 p0 p1 p2 g0
        go_wp2_with fail
        obtain ⟨rr0, rr1, rr2, rr3, rr4⟩ := res5 HZ9.out.1 HZ9.out.2 (.slice none 0 0) (.slice none 0 0) (.slice none 0 0) (.int .i64 ce) (.int .i64 (-1))
        refine bodyPost_ret (v := .tuple #[.agg #[.slice none 0 0, .slice none 0 0, .slice none 0 0], .agg #[.int .i64 ce, .int .i64 (-1)]]) (by simp [results, Tryz.results39, go_sem, rr0, rr1, rr2, rr3, rr4]) rfl ?_
        exact ⟨_, _, _, by rw [HF1.out.1, HF1.out.2.1], by rw [HF1.out.2.2]; exact noProg_rows _, ((below_set3 HB9.out (Nat.le_refl _) _ _ _).setCell (by simp) _).setCell (by simp) _⟩
      | none =>
        have hce : ce = 0 := by rw [HCE.out, hck]; rfl
        have HF1 : Hid (codeE (readD s).2 = 0 ∧ placeE (readD s).2 = -1 ∧ (readD s).1 = P) := by
          have := HRD.out
          rw [hck] at this
          show _ ∧ _
          rw [this]
          exact ⟨rfl, rfl, rfl⟩
        subst hce
        clear hck HCE HRD
        have KB : Hid (∀ wx, Calls Tryz.prog 65 #[] wx fun e w' => e = .returned (.agg #[.int .i64 0, .int .i64 (-1)]) ∧ Below wx.heap.size wx w') := fun wx => fine_ref wx
        have hn1 : W1.heap.size ≠ w.heap.size := by have := HW12.out; omega
        have hn2 : W1.heap.size ≠ w.heap.size + 1 := by have := HW12.out; omega
        have HBK7 : Hid (W7.heap[W1.heap.size]? = some (.cells #[.slice a1 m1 n1, .slice a2 m2 n2, .slice a3 m3 n3] 43)) := block_keep HB7.out.2.2 HBK.out
        have HPR7 : Hid (IsProg W7 (.slice a1 m1 n1) (.slice a2 m2 n2) (.slice a3 m3 n3) P) := HPR.out.below HB7.out.2.2
        go_wp2_with fail
        clear g0
        have pd0 : W7.drew.cell? ⟨W1.heap.size, 0, none⟩ = some (.slice a1 m1 n1) := p0
        have pd1 : W7.drew.cell? ⟨W1.heap.size, 1, none⟩ = some (.slice a2 m2 n2) := p1
        have pd2 : W7.drew.cell? ⟨W1.heap.size, 2, none⟩ = some (.slice a3 m3 n3) := p2
        go_region_held3 (fun wx => wx.cell? ⟨W1.heap.size, 0, none⟩ = some (.slice a1 m1 n1) ∧ wx.cell? ⟨W1.heap.size, 1, none⟩ = some (.slice a2 m2 n2) ∧ wx.cell? ⟨W1.heap.size, 2, none⟩ = some (.slice a3 m3 n3))
          ((go_split_ands; first | with_reducible exact ⟨pd0, pd1, pd2⟩ | with_reducible exact ⟨p0, p1, p2⟩ | with_reducible exact ⟨v0, v1, v2⟩ | with_reducible exact keep_o3 v0 v1 v2 hn1 | with_reducible exact keep_o5 v0 v1 v2 hn1 hn2))
          ((go_at_call 65; refine (KB.out _).mono ?_; rintro e w8 ⟨rfl, hb8⟩; have hb8' : Below W7.heap.size W7 w8 := Below.trans (by first | exact Below.refl _ _ | exact (Below.refl _ _).drew) hb8; have HB8 : Hid (Below W7.heap.size W7 w8) := hb8'; have v0 := cell_keep hb8' p0; have v1 := cell_keep hb8' p1; have v2 := cell_keep hb8' p2; have HZ8 : Hid (w8.heap[w.heap.size]? = some zero3 ∧ w8.heap[w.heap.size + 1]? = some zeroF) := ⟨block_keep hb8' HZ7.out.1, block_keep hb8' HZ7.out.2⟩; have z0 : w8.cell? ⟨w.heap.size, 0, none⟩ = some (.slice none 0 0) := (by rw [Lib.cell_of_heap HZ8.out.1]; rfl); have z1 : w8.cell? ⟨w.heap.size, 1, none⟩ = some (.slice none 0 0) := (by rw [Lib.cell_of_heap HZ8.out.1]; rfl); have z2 : w8.cell? ⟨w.heap.size, 2, none⟩ = some (.slice none 0 0) := (by rw [Lib.cell_of_heap HZ8.out.1]; rfl); have z3 : w8.cell? ⟨w.heap.size + 1, 0, none⟩ = some (.int .i64 0) := (by rw [Lib.cell_of_heap HZ8.out.2]; rfl); have z4 : w8.cell? ⟨w.heap.size + 1, 1, none⟩ = some (.int .i64 0) := (by rw [Lib.cell_of_heap HZ8.out.2]; rfl); have y0 := frozen_of_block HZ8.out.1 0; have y1 := frozen_of_block HZ8.out.1 1; have y2 := frozen_of_block HZ8.out.1 2; have y3 := frozen_of_block HZ8.out.2 0; have y4 := frozen_of_block HZ8.out.2 1; clear hb8 hb8'))
        have HB8w : Hid (Below w.heap.size w w8) := HB7.out.2.1.trans (HB8.out.mono HB7.out.2.1.size)
        have HR8 : Hid (Rq w8 (W1.heap.size + 1) P (.slice a1 m1 n1) (.slice a2 m2 n2) (.slice a3 m3 n3) ps qs ∧ w8.heap[W1.heap.size]? = some (.cells #[.slice a1 m1 n1, .slice a2 m2 n2, .slice a3 m3 n3] 43)) := ⟨(HRQ.out.below HB7.out.2.2).below HB8.out, block_keep HB8.out HBK7.out⟩
        go_wp2_with fail
        obtain ⟨rr0, rr1, rr2, rr3, rr4⟩ := res5 HZ8.out.1 HZ8.out.2 (.slice a1 m1 n1) (.slice a2 m2 n2) (.slice a3 m3 n3) (.int .i64 0) (.int .i64 (-1))
        refine bodyPost_ret (v := .tuple #[.agg #[.slice a1 m1 n1, .slice a2 m2 n2, .slice a3 m3 n3], .agg #[.int .i64 0, .int .i64 (-1)]]) (by simp [results, Tryz.results39, go_sem, rr0, rr1, rr2, rr3, rr4]) rfl ?_
        exact ⟨_, _, _, by rw [HF1.out.1, HF1.out.2.1], by rw [HF1.out.2.2]; exact prog_five HR8.out.1 HR8.out.2 HZ8.out.1 HZ8.out.2 hn1 hn2 _ _ _ _ _, ((below_set3 HB8w.out (Nat.le_refl _) _ _ _).setCell (by simp) _).setCell (by simp) _⟩
theorem refRead_any (s : Bs) (w : World) :
    Calls Tryz.prog 39 #[.string (S s)] w fun e w' => ∃ u1 u2 u3, e = .returned (.tuple #[.agg #[u1, u2, u3], .agg #[.int .i64 (codeE (readD s).2), .int .i64 (placeE (readD s).2)]]) ∧ IsProg w' u1 u2 u3 (readD s).1 ∧ Below w.heap.size w w' := by
  rcases Nat.lt_or_ge 4000 s.length with h | h
  · exact refRead_long s w h
  · exact refRead_short s w h
end Go.Proofs.YtakmmpbkojhmhaaGreatDoor

/-
  Package frame: Decode, by a contract.
-/
import Derived.Test.YtbppimahedbpoaaDoorNI
import Derived.Lib.QuietBelow
namespace Go.Proofs.YtbppimahedbpoaaDoor
open Go.RowKit Go.Extern.Stop Go.Stop Go.Extern

def noFrame : FrameD := ⟨0, 0, 0, 0, []⟩
/-- The body of a text, and its last four bytes. -/
def bodyS (l : Bs) : Bs := l.take (l.length - 4)
def lastS (l : Bs) : Bs := l.drop (l.length - 4)
/-- What a text is read as. -/
def decodeD (l : Bs) : FrameD × Option Nat :=
  if l.length < 12 then (noFrame, some 0)
  else if l.length ≠ 12 + 4 * tkD l 7 1 then (noFrame, some 0)
  else if lastS l ≠ lowD (crcD (bodyS l)) then (noFrame, some 10)
  else match frameE (fieldsD l) with
    | some i => (noFrame, some i)
    | none => (fieldsD l, none)
def DecPost (a : Nat → Addr) (l : Bs) (w w' : World) (e : Ending) : Prop :=
  ∃ nv, e = .returned (.tuple #[frameV (decodeD l).1 nv, errV a (decodeD l).2]) ∧ IsInts w' nv (decodeD l).1.nums ∧ Below w.heap.size w w'
theorem tk7 (s : ByteArray) (h : 7 < s.size) : tkD s.data.toList 7 1 = (s[7]'h).toNat := by
  have hl : 7 + 0 < s.data.toList.length := by rw [← Lib.size_eq]; omega
  rw [tkD_next _ 7 0 hl, getD_dataN s 7 h]
  simp [tkD, bytesN]
/-- Five cells of a block, one after another. -/
abbrev set5F (w : World) (N : Nat) (x0 x1 x2 x3 x4 : Value) : World := ((((w.setCell ⟨N, 0, none⟩ x0).setCell ⟨N, 1, none⟩ x1).setCell ⟨N, 2, none⟩ x2).setCell ⟨N, 3, none⟩ x3).setCell ⟨N, 4, none⟩ x4
structure ResF (w : World) (N : Nat) (y0 y1 y2 y3 y4 : Value) : Prop where
  c0 : w.cell? ⟨N, 0, none⟩ = some y0
  c1 : w.cell? ⟨N, 1, none⟩ = some y1
  c2 : w.cell? ⟨N, 2, none⟩ = some y2
  c3 : w.cell? ⟨N, 3, none⟩ = some y3
  c4 : w.cell? ⟨N, 4, none⟩ = some y4
  f0 : w.frozen? ⟨N, 0, none⟩ = false
  f1 : w.frozen? ⟨N, 1, none⟩ = false
  f2 : w.frozen? ⟨N, 2, none⟩ = false
  f3 : w.frozen? ⟨N, 3, none⟩ = false
  f4 : w.frozen? ⟨N, 4, none⟩ = false
theorem resF {w : World} {N : Nat} {y0 y1 y2 y3 y4 : Value} (h : w.heap[N]? = some (.cells #[y0, y1, y2, y3, y4] TFr (0, 0))) : ResF w N y0 y1 y2 y3 y4 :=
  ⟨by rw [Lib.cell_of_heap h]; rfl, by rw [Lib.cell_of_heap h]; rfl, by rw [Lib.cell_of_heap h]; rfl, by rw [Lib.cell_of_heap h]; rfl, by rw [Lib.cell_of_heap h]; rfl, Lib.frozen_of_heap h 0, Lib.frozen_of_heap h 1, Lib.frozen_of_heap h 2, Lib.frozen_of_heap h 3, Lib.frozen_of_heap h 4⟩
theorem set5F_blk {w : World} {N : Nat} {y0 y1 y2 y3 y4 : Value} (h : w.heap[N]? = some (.cells #[y0, y1, y2, y3, y4] TFr (0, 0))) (x0 x1 x2 x3 x4 : Value) : (set5F w N x0 x1 x2 x3 x4).heap[N]? = some (.cells #[x0, x1, x2, x3, x4] TFr (0, 0)) :=
  set_block _ _ _ _ _ _ (set_block _ _ _ _ _ _ (set_block _ _ _ _ _ _ (set_block _ _ _ _ _ _ (set_block _ _ _ _ _ _ h _) _) _) _) _
theorem set5F_keep (w : World) (N : Nat) (x0 x1 x2 x3 x4 : Value) (p : Nat → Prop) (hp : p N) : KeepN w (set5F w N x0 x1 x2 x3 x4) p :=
  ((((keepN_set _ _ _ _ _ hp).trans (keepN_set _ _ _ _ _ hp)).trans (keepN_set _ _ _ _ _ hp)).trans (keepN_set _ _ _ _ _ hp)).trans (keepN_set _ _ _ _ _ hp)
theorem isInts_set5F {w : World} {N : Nat} {y0 y1 y2 y3 y4 : Value} (h : w.heap[N]? = some (.cells #[y0, y1, y2, y3, y4] TFr (0, 0))) (x0 x1 x2 x3 x4 : Value) {v : Value} {zs : List Int} (hi : ∃ B, w.ownsRow B TInt 1 v zs.length (zs.map intV)) : IsInts (set5F w N x0 x1 x2 x3 x4) v zs := by
  obtain ⟨B, hi⟩ := hi
  have b1 := set_block _ _ 0 _ _ _ h x0
  have b2 := set_block _ _ 1 _ _ _ b1 x1
  have b3 := set_block _ _ 2 _ _ _ b2 x2
  have b4 := set_block _ _ 3 _ _ _ b3 x3
  have h1 := owns_kept hi (kept_setCell (i := 0) h x0) (by decide)
  have h2 := owns_kept h1 (kept_setCell (i := 1) b1 x1) (by decide)
  have h3 := owns_kept h2 (kept_setCell (i := 2) b2 x2) (by decide)
  have h4 := owns_kept h3 (kept_setCell (i := 3) b3 x3) (by decide)
  exact (isCap_of_owns (owns_kept h4 (kept_setCell (i := 4) b4 x4) (by decide))).1
set_option maxRecDepth 100000 in
set_option maxHeartbeats 16000000 in
theorem decode_any (a : Nat → Addr) (s : ByteArray) (w : World) (hE : Errs6 w a) (hss : s.size ≤ 1000000) :
    Calls Tryd.prog 13 #[.string s] w fun e w' => DecPost a s.data.toList w w' e := by
  obtain ⟨l, hl⟩ : ∃ l, l = s.data.toList := ⟨_, rfl⟩
  have hll : l.length = s.size := by rw [hl, ← Lib.size_eq]
  rw [← hl]
  obtain ⟨N, hN⟩ : ∃ N, N = w.heap.size := ⟨_, rfl⟩
  obtain ⟨W, hW⟩ : ∃ W, W = w.alloc zFr := ⟨_, rfl⟩
  have hBW : Below w.heap.size w W := by rw [hW]; exact below1 w _
  have hX : W.heap[N]? = some zFr := by rw [hW, hN]; exact heap_new w _
  have HX : Hid (∀ wx, Below W.heap.size W wx → wx.heap[N]? = some zFr ∧ Errs6 wx a ∧ Below w.heap.size w wx) := fun wx hb => ⟨block_keep hb hX, (hE.below hBW).below hb, hBW.trans (hb.mono hBW.size)⟩
  have HNN : Hid (N = w.heap.size ∧ l.length = s.size ∧ l = s.data.toList) := ⟨hN, hll, hl⟩
  -- what comes back with an error
  have HEND : Hid (∀ (wx wy : World) (i : Nat), (decodeD l) = (noFrame, some i) → Below W.heap.size W wx → (wy = set5F wx N (.int .u8 0) (.int .i64 0) (.int .i64 0) (.int .i64 0) (.slice none 0 0) ∨ wy = (set5F wx N (.int .u8 0) (.int .i64 0) (.int .i64 0) (.int .i64 0) (.slice none 0 0)).drew) → DecPost a l w wy (.returned (.tuple #[.agg #[.int .u8 0, .int .i64 0, .int .i64 0, .int .i64 0, .slice none 0 0], .iface 106 (.pointer (some (a i)))]))) := fun wx wy i hd hb hy => by
    refine ⟨.slice none 0 0, by rw [hd]; rfl, by rw [hd]; exact IsInts.nil _ _ _, ?_⟩
    have h1 := (HX.out wx hb).2.2
    have h2 := h1.trans ((set5F_keep wx N (.int .u8 0) (.int .i64 0) (.int .i64 0) (.int .i64 0) (.slice none 0 0) (· = N) rfl).below (fun k hk => by rw [hk, HNN.out.1]; exact Nat.le_refl _) h1.size)
    rcases hy with rfl | rfl
    · exact h2
    · exact h2.drew
  by_cases h12 : s.size < 12
  · have hd : decodeD l = (noFrame, some 0) := by unfold decodeD; rw [if_pos (by omega)]
    have g0 : W.cell? ⟨4, 0, none⟩ = some (.iface 106 (.pointer (some (a 0)))) := (HX.out W (Below.refl _ _)).2.1.c0
    have g0d : W.drew.cell? ⟨4, 0, none⟩ = some (.iface 106 (.pointer (some (a 0)))) := g0
    obtain ⟨r0, r1, r2, r3, r4, f0, f1, f2, f3, f4⟩ := resF hX
    obtain ⟨wz, hwz⟩ : ∃ z, z = (set5F W N (.int .u8 0) (.int .i64 0) (.int .i64 0) (.int .i64 0) (.slice none 0 0)).drew := ⟨_, rfl⟩
    have h9 := block_keep (Below.refl _ _).drew (set5F_blk hX (.int .u8 0) (.int .i64 0) (.int .i64 0) (.int .i64 0) (.slice none 0 0))
    rw [← hwz] at h9
    obtain ⟨z0, z1, z2, z3, z4, -, -, -, -, -⟩ := resF h9
    have HZ : Hid (wz = (set5F W N (.int .u8 0) (.int .i64 0) (.int .i64 0) (.int .i64 0) (.slice none 0 0)).drew) := hwz
    have hNg : N ≠ 4 := fun e => by
      have := lt_of_cell (hE.c0)
      rw [← e, hN] at this
      exact absurd this (Nat.lt_irrefl _)
    have HGZ : Hid ((set5F W.drew N (.int .u8 0) (.int .i64 0) (.int .i64 0) (.int .i64 0) (.slice none 0 0)).cell? ⟨4, 0, none⟩ = some (.iface 106 (.pointer (some (a 0)))) ∧ (set5F W N (.int .u8 0) (.int .i64 0) (.int .i64 0) (.int .i64 0) (.slice none 0 0)).drew.cell? ⟨4, 0, none⟩ = some (.iface 106 (.pointer (some (a 0))))) := by
      refine ⟨?_, ?_⟩
      · exact other_cell (other_cell (other_cell (other_cell (other_cell g0d (Ne.symm hNg)) (Ne.symm hNg)) (Ne.symm hNg)) (Ne.symm hNg)) (Ne.symm hNg)
      · exact cell_keep (Below.refl _ _).drew (other_cell (other_cell (other_cell (other_cell (other_cell g0 (Ne.symm hNg)) (Ne.symm hNg)) (Ne.symm hNg)) (Ne.symm hNg)) (Ne.symm hNg))
    have HQ : Hid _ := HEND.out W wz 0 hd (Below.refl _ W) (Or.inr hwz)
    clear h9 hwz hd hNg hX hBW hE HEND hl hll HX
    go_enter Tryd.func13, Tryd.ntmps13
    go_upto_region 1 with fail
    rw [← hW, ← hN]
    clear hW hN
    go_upto_region 2 with fail
    refine wp_region_noPanic ?_
    refine wp_region_held_drew (S := fun wx => wx.cell? ⟨4, 0, none⟩ = some (.iface 106 (.pointer (some (a 0))))) (by kernel_rfl) g0d (fun hHeld => ?_)
    refine wpAnyH_take (i := 0) (oi := _) (v := .agg #[.int .u8 0, .int .i64 0, .int .i64 0, .int .i64 0, .slice none 0 0]) rfl (by kernel_rfl) (by kernel_rfl) (by kernel_rfl) (fun _ _ _ h => h) (Or.inl ⟨by rfl, ?_⟩) hHeld ?_
    · (intro w hSw; go_simp)
    try simp only [Act.put, List.setIfInBounds_toArray]
    refine wpAnyH_take (i := 1) (oi := _) (v := .iface 106 (.pointer (some (a 0)))) rfl (by kernel_rfl) (by kernel_rfl) (by kernel_rfl) (fun _ _ _ h => h) (Or.inl ⟨by rfl, ?_⟩) hHeld ?_
    · (intro w hSw; go_simp)
    try simp only [Act.put]
    refine wpAnyH_ready (rs := [2]) (by kernel_rfl) (by simp) ?_
    refine AllReadyH.cons (o := _) rfl (fun K hK => ?_) AllReadyH.nil
    clear hHeld g0 g0d
    go_simp
    refine hK.out _ _ HGZ.out.2 (fun hHeld => ?_)
    clear hK K r0 r1 r2 r3 r4 f0 f1 f2 f3 f4
    try simp only [Act.put, List.setIfInBounds_toArray, List.set_cons_zero, List.set_cons_succ]
    refine wpAnyH_take (i := 3) (oi := _) (v := .iface 106 (.pointer (some (a 0)))) rfl (by kernel_rfl) (by kernel_rfl) (by kernel_rfl) (fun _ _ _ h => h) (Or.inl ⟨by rfl, ?_⟩) hHeld ?_
    · (intro w hSw; clear hHeld; go_simp)
    simp only [List.getElem_toArray, List.getElem_cons_succ, List.getElem_cons_zero, Act.put, List.setIfInBounds_toArray, List.set_cons_zero, List.set_cons_succ]
    clear hHeld
    refine wpAnyH_done (by kernel_rfl) ?_ _
    refine NoPanic.normal ?_
    rw [← HZ.out]
    go_wp2_with fail
    refine bodyPost_ret (v := .tuple #[.agg #[.int .u8 0, .int .i64 0, .int .i64 0, .int .i64 0, .slice none 0 0], .iface 106 (.pointer (some (a 0)))]) (by simp [results, Tryd.results13, go_sem, z0, z1, z2, z3, z4]) rfl ?_
    exact HQ.out
  have h7 : 7 < s.size := by omega
  have hc7 : tkD l 7 1 = (s[7]'h7).toNat := by rw [hl]; exact tk7 s h7
  have hc8 : (s[7]'h7).toNat < 256 := UInt8.toNat_lt _
  by_cases hsz : s.size = 12 + 4 * tkD l 7 1
  case neg =>
    have hd : decodeD l = (noFrame, some 0) := by unfold decodeD; rw [if_neg (by omega), if_pos (by omega)]
    have hne : ((s.size : Int) != 12 + 4 * ((s[7]'h7).toNat : Int)) = true := by
      simp only [bne_iff_ne, ne_eq]
      omega
    have hlt : ¬ (s.size : Int) < 12 := by omega
    clear hsz hc7
    have g0 : W.cell? ⟨4, 0, none⟩ = some (.iface 106 (.pointer (some (a 0)))) := (HX.out W (Below.refl _ _)).2.1.c0
    have g0d : W.drew.cell? ⟨4, 0, none⟩ = some (.iface 106 (.pointer (some (a 0)))) := g0
    obtain ⟨r0, r1, r2, r3, r4, f0, f1, f2, f3, f4⟩ := resF hX
    obtain ⟨wz, hwz⟩ : ∃ z, z = (set5F W N (.int .u8 0) (.int .i64 0) (.int .i64 0) (.int .i64 0) (.slice none 0 0)).drew := ⟨_, rfl⟩
    have h9 := block_keep (Below.refl _ _).drew (set5F_blk hX (.int .u8 0) (.int .i64 0) (.int .i64 0) (.int .i64 0) (.slice none 0 0))
    rw [← hwz] at h9
    obtain ⟨z0, z1, z2, z3, z4, -, -, -, -, -⟩ := resF h9
    have HZ : Hid (wz = (set5F W N (.int .u8 0) (.int .i64 0) (.int .i64 0) (.int .i64 0) (.slice none 0 0)).drew) := hwz
    have hNg : N ≠ 4 := fun e => by
      have := lt_of_cell (hE.c0)
      rw [← e, hN] at this
      exact absurd this (Nat.lt_irrefl _)
    have HGZ : Hid ((set5F W.drew N (.int .u8 0) (.int .i64 0) (.int .i64 0) (.int .i64 0) (.slice none 0 0)).cell? ⟨4, 0, none⟩ = some (.iface 106 (.pointer (some (a 0)))) ∧ (set5F W N (.int .u8 0) (.int .i64 0) (.int .i64 0) (.int .i64 0) (.slice none 0 0)).drew.cell? ⟨4, 0, none⟩ = some (.iface 106 (.pointer (some (a 0))))) := by
      refine ⟨?_, ?_⟩
      · exact other_cell (other_cell (other_cell (other_cell (other_cell g0d (Ne.symm hNg)) (Ne.symm hNg)) (Ne.symm hNg)) (Ne.symm hNg)) (Ne.symm hNg)
      · exact cell_keep (Below.refl _ _).drew (other_cell (other_cell (other_cell (other_cell (other_cell g0 (Ne.symm hNg)) (Ne.symm hNg)) (Ne.symm hNg)) (Ne.symm hNg)) (Ne.symm hNg))
    have HQ : Hid _ := HEND.out W wz 0 hd (Below.refl _ W) (Or.inr hwz)
    clear h9 hwz hd hNg hX hBW hE HEND hl hll HX
    go_enter Tryd.func13, Tryd.ntmps13
    go_upto_region 1 with fail
    rw [← hW, ← hN]
    clear hW hN
    go_upto_region 2 with fail
    refine wp_region_noPanic ?_
    refine wp_region_held_drew (S := fun wx => wx.cell? ⟨4, 0, none⟩ = some (.iface 106 (.pointer (some (a 0))))) (by kernel_rfl) g0d (fun hHeld => ?_)
    refine wpAnyH_take (i := 0) (oi := _) (v := .agg #[.int .u8 0, .int .i64 0, .int .i64 0, .int .i64 0, .slice none 0 0]) rfl (by kernel_rfl) (by kernel_rfl) (by kernel_rfl) (fun _ _ _ h => h) (Or.inl ⟨by rfl, ?_⟩) hHeld ?_
    · (intro w hSw; go_simp)
    try simp only [Act.put, List.setIfInBounds_toArray]
    refine wpAnyH_take (i := 1) (oi := _) (v := .iface 106 (.pointer (some (a 0)))) rfl (by kernel_rfl) (by kernel_rfl) (by kernel_rfl) (fun _ _ _ h => h) (Or.inl ⟨by rfl, ?_⟩) hHeld ?_
    · (intro w hSw; go_simp)
    try simp only [Act.put]
    refine wpAnyH_ready (rs := [2]) (by kernel_rfl) (by simp) ?_
    refine AllReadyH.cons (o := _) rfl (fun K hK => ?_) AllReadyH.nil
    clear hHeld g0 g0d
    go_simp
    refine hK.out _ _ HGZ.out.2 (fun hHeld => ?_)
    clear hK K r0 r1 r2 r3 r4 f0 f1 f2 f3 f4
    try simp only [Act.put, List.setIfInBounds_toArray, List.set_cons_zero, List.set_cons_succ]
    refine wpAnyH_take (i := 3) (oi := _) (v := .iface 106 (.pointer (some (a 0)))) rfl (by kernel_rfl) (by kernel_rfl) (by kernel_rfl) (fun _ _ _ h => h) (Or.inl ⟨by rfl, ?_⟩) hHeld ?_
    · (intro w hSw; clear hHeld; go_simp)
    simp only [List.getElem_toArray, List.getElem_cons_succ, List.getElem_cons_zero, Act.put, List.setIfInBounds_toArray, List.set_cons_zero, List.set_cons_succ]
    clear hHeld
    refine wpAnyH_done (by kernel_rfl) ?_ _
    refine NoPanic.normal ?_
    rw [← HZ.out]
    go_wp2_with fail
    refine bodyPost_ret (v := .tuple #[.agg #[.int .u8 0, .int .i64 0, .int .i64 0, .int .i64 0, .slice none 0 0], .iface 106 (.pointer (some (a 0)))]) (by simp [results, Tryd.results13, go_sem, z0, z1, z2, z3, z4]) rfl ?_
    exact HQ.out
  have hne : ((s.size : Int) != 12 + 4 * ((s[7]'h7).toNat : Int)) = false := by
    simp only [bne_eq_false_iff_eq]
    omega
  have hlt : ¬ (s.size : Int) < 12 := by omega
  have h4i : (4 : Int) ≤ (s.size : Int) := by omega
  have hsz4 : s.size - 4 ≤ s.size := Nat.sub_le _ _
  obtain ⟨st, hst⟩ : ∃ t, t = S (lowD (crcD (bodyS l))) := ⟨_, rfl⟩
  have cS : ∀ d os, Calls Tryd.prog 21 #[.string (s.extract 0 (s.size - 4))] (Go.Sort.grow (redrawn W d) os) fun e w'' => e = .returned (.string st) ∧ ∃ p : Regrown, w'' = Go.Sort.grow (redrawn W p.d) p.os := fun d os => Calls.regrown_of (by
    have hb : (s.extract 0 (s.size - 4)).data.toList = bodyS l := by
      rw [Lib.extract_data]
      unfold bodyS
      rw [← hl, hll]
      simp
    have := sumText_any (s.extract 0 (s.size - 4)) (Go.Sort.grow (redrawn W d) os) (by rw [ByteArray.size_extract]; omega)
    rw [hb] at this
    rw [hst]
    exact this)
  have HEQ : Hid (s.extract (s.size - 4) s.size = S (lastS l)) := by
    show _ = _
    rw [← S_of (s.extract (s.size - 4) s.size), Lib.extract_data]
    unfold lastS
    rw [← hl, hll]
    congr 1
    exact List.take_of_length_le (by rw [List.length_drop]; omega)
  have HSZ : Hid (s.size = 12 + 4 * tkD l 7 1 ∧ st = S (lowD (crcD (bodyS l))) ∧ l = s.data.toList ∧ ¬ l.length < 12) := ⟨hsz, hst, hl, by omega⟩
  have HD : Hid (((s.extract (s.size - 4) s.size).toList == st.toList) = decide (lastS l = lowD (crcD (bodyS l)))) := by
    show _ = _
    rw [HEQ.out, hst, S_toList, S_toList]
    by_cases e : lastS l = lowD (crcD (bodyS l))
    · rw [decide_eq_true e, e]; simp
    · rw [decide_eq_false e]; simpa using e
  obtain ⟨D, hD⟩ : ∃ D, D = ((s.extract (s.size - 4) s.size).toList == st.toList) := ⟨_, rfl⟩
  rw [← hD] at HD
  have HDD : Hid (D = ((s.extract (s.size - 4) s.size).toList == st.toList)) := hD
  clear hsz hc7 hl hll h12 hst hBW hE hD hX
  go_enter Tryd.func13, Tryd.ntmps13
  go_upto_region 1 with fail
  rw [← hW, ← hN]
  clear hW hN
  go_upto_region 4 with fail
  refine wp_region_quiet_below (by kernel_rfl) (by kernel_rfl) ?_
  repeat (go_big_quiet_step (first | exact cS _ _))
  refine wpQuiet_nil ?_
  intro _ hw'
  obtain ⟨⟨dq, osq⟩, hw''⟩ := hw'
  subst hw''
  obtain ⟨W5, hW5⟩ : ∃ z, z = Go.Sort.grow (redrawn W dq) osq := ⟨_, rfl⟩
  have HB5 : Hid (Below W.heap.size W W5) := by
    show Below _ _ _
    rw [hW5]; exact below_regrown W dq osq
  rw [← hW5, ← HDD.out]
  clear hW5 cS HDD hne h7 hc8
  cases D with
  | false =>
    have hd : decodeD l = (noFrame, some 10) := by
      unfold decodeD
      have h1 := HD.out
      have h2 : ¬ lastS l = lowD (crcD (bodyS l)) := of_decide_eq_false h1.symm
      rw [if_neg HSZ.out.2.2.2, if_neg (by rw [HNN.out.2.1]; exact fun q => q HSZ.out.1), if_pos h2]
    have hX := (HX.out W5 HB5.out).1
    have hE := (HX.out W5 HB5.out).2.1
    have g0 : W5.cell? ⟨5, 0, none⟩ = some (.iface 106 (.pointer (some (a 10)))) := hE.c10
    have g0d : W5.drew.cell? ⟨5, 0, none⟩ = some (.iface 106 (.pointer (some (a 10)))) := g0
    have hNg : N ≠ 5 := fun e => by
      have h1 := hE.c10
      rw [← e, Lib.cell_of_heap hX] at h1
      injection h1 with h1
      cases h1
    obtain ⟨r0, r1, r2, r3, r4, f0, f1, f2, f3, f4⟩ := resF hX
    obtain ⟨wz, hwz⟩ : ∃ z, z = (set5F W5 N (.int .u8 0) (.int .i64 0) (.int .i64 0) (.int .i64 0) (.slice none 0 0)).drew := ⟨_, rfl⟩
    have h9 := block_keep (Below.refl _ _).drew (set5F_blk hX (.int .u8 0) (.int .i64 0) (.int .i64 0) (.int .i64 0) (.slice none 0 0))
    rw [← hwz] at h9
    obtain ⟨z0, z1, z2, z3, z4, -, -, -, -, -⟩ := resF h9
    have HZ : Hid (wz = (set5F W5 N (.int .u8 0) (.int .i64 0) (.int .i64 0) (.int .i64 0) (.slice none 0 0)).drew) := hwz
    have HQ : Hid _ := HEND.out W5 wz 10 hd HB5.out (Or.inr hwz)
    have HGZ : Hid ((set5F W5 N (.int .u8 0) (.int .i64 0) (.int .i64 0) (.int .i64 0) (.slice none 0 0)).drew.cell? ⟨5, 0, none⟩ = some (.iface 106 (.pointer (some (a 10))))) := by
      exact cell_keep (Below.refl _ _).drew (other_cell (other_cell (other_cell (other_cell (other_cell g0 (Ne.symm hNg)) (Ne.symm hNg)) (Ne.symm hNg)) (Ne.symm hNg)) (Ne.symm hNg))
    clear h9 hwz hd hNg hX hE HEND HX
    go_upto_region 5 with fail
    refine wp_region_noPanic ?_
    refine wp_region_held_drew (S := fun wx => wx.cell? ⟨5, 0, none⟩ = some (.iface 106 (.pointer (some (a 10))))) (by kernel_rfl) g0d (fun hHeld => ?_)
    refine wpAnyH_take (i := 0) (oi := _) (v := .agg #[.int .u8 0, .int .i64 0, .int .i64 0, .int .i64 0, .slice none 0 0]) rfl (by kernel_rfl) (by kernel_rfl) (by kernel_rfl) (fun _ _ _ h => h) (Or.inl ⟨by rfl, ?_⟩) hHeld ?_
    · (intro w hSw; go_simp)
    simp only [List.getElem_toArray, List.getElem_cons_zero, Act.put, List.setIfInBounds_toArray, List.set_cons_zero, List.set_cons_succ]
    refine wpAnyH_take (i := 1) (oi := _) (v := .iface 106 (.pointer (some (a 10)))) rfl (by kernel_rfl) (by kernel_rfl) (by kernel_rfl) (fun _ _ _ h => h) (Or.inl ⟨by rfl, ?_⟩) hHeld ?_
    · (intro w hSw; go_simp)
    simp only [List.getElem_toArray, List.getElem_cons_succ, List.getElem_cons_zero, Act.put, List.setIfInBounds_toArray, List.set_cons_zero, List.set_cons_succ]
    refine wpAnyH_ready (rs := [2]) (by kernel_rfl) (by simp) ?_
    refine AllReadyH.cons (o := _) rfl (fun K hK => ?_) AllReadyH.nil
    clear hHeld g0 g0d
    go_simp
    refine hK.out _ _ HGZ.out (fun hHeld => ?_)
    clear hK K r0 r1 r2 r3 r4 f0 f1 f2 f3 f4
    refine wpAnyH_take (i := 3) (oi := _) (v := .iface 106 (.pointer (some (a 10)))) rfl (by kernel_rfl) (by kernel_rfl) (by kernel_rfl) (fun _ _ _ h => h) (Or.inl ⟨by rfl, ?_⟩) hHeld ?_
    · (intro w hSw; clear hHeld; go_simp)
    simp only [List.getElem_toArray, List.getElem_cons_succ, List.getElem_cons_zero, Act.put, List.setIfInBounds_toArray, List.set_cons_zero, List.set_cons_succ]
    clear hHeld
    refine wpAnyH_done (by kernel_rfl) ?_ _
    refine NoPanic.normal ?_
    rw [← HZ.out]
    go_wp2_with fail
    refine bodyPost_ret (v := .tuple #[.agg #[.int .u8 0, .int .i64 0, .int .i64 0, .int .i64 0, .slice none 0 0], .iface 106 (.pointer (some (a 10)))]) (by simp [results, Tryd.results13, go_sem, z0, z1, z2, z3, z4]) rfl ?_
    exact HQ.out
  | true =>
    have hsum : lastS l = lowD (crcD (bodyS l)) := of_decide_eq_true HD.out.symm
    obtain ⟨f, hf⟩ : ∃ f, f = fieldsD l := ⟨_, rfl⟩
    have HDEC : Hid (decodeD l = match frameE f with
      | some i => (noFrame, some i)
      | none => (f, none)) := by
      show _ = _
      unfold decodeD
      rw [if_neg HSZ.out.2.2.2, if_neg (by rw [HNN.out.2.1]; exact fun q => q HSZ.out.1), if_neg (fun q => q hsum), hf]
    obtain ⟨sb, hsb⟩ : ∃ b, b = W5.heap.size := ⟨_, rfl⟩
    have KR : Hid (Calls Tryd.prog 32 #[.string s] W5 fun e w' => e = .returned (takeV sb (sb + 1)) ∧ w'.heap[sb]? = some (.cells #[.string s] TStr (0, 0)) ∧ w'.heap[sb + 1]? = some (.cells #[.int .i64 0] TInt (0, 0)) ∧ Below W5.heap.size W5 w') := by
      refine (reader_any s W5).mono ?_
      rintro e w' ⟨rfl, rfl⟩
      have h1 := heap_new (W5.alloc (.cells #[.string s] TStr)) (.cells #[.int .i64 0] TInt)
      rw [World.size_alloc] at h1
      rw [hsb]
      exact ⟨rfl, block_keep (below1 _ _) (heap_new W5 _), h1, (below1 W5 _).alloc (by simp) _⟩
    obtain ⟨n, hn⟩ : ∃ n, n = f.nums.length := ⟨_, rfl⟩
    obtain ⟨kd, hkd⟩ : ∃ x, x = f.kind := ⟨_, rfl⟩
    obtain ⟨fr, hfr⟩ : ∃ x, x = f.frm := ⟨_, rfl⟩
    obtain ⟨to, hto⟩ : ∃ x, x = f.to := ⟨_, rfl⟩
    obtain ⟨sq, hsq⟩ : ∃ x, x = f.seq := ⟨_, rfl⟩
    have HN2 : Hid (n = f.nums.length ∧ kd = f.kind ∧ fr = f.frm ∧ to = f.to ∧ sq = f.seq ∧ f.nums.length ≤ 1000000) := ⟨hn, hkd, hfr, hto, hsq, by
      have := HSZ.out.1
      rw [hf]
      show (numsD l _).length ≤ _
      rw [numsD_len]
      omega⟩
    have KF : Hid (∀ w6, w6.heap[sb]? = some (.cells #[.string s] TStr (0, 0)) → w6.heap[sb + 1]? = some (.cells #[.int .i64 0] TInt (0, 0)) → Below W5.heap.size W5 w6 → Calls Tryd.prog 31 #[takeV sb (sb + 1)] w6 fun e w' => ∃ na nc, e = .returned (.agg #[.int .u8 kd, .int .i64 fr, .int .i64 to, .int .i64 sq, .slice na n nc]) ∧ (∃ B, w'.ownsRow B TInt 1 (.slice na n nc) f.nums.length (f.nums.map intV)) ∧ Below W.heap.size W w') := fun w6 h1 h2 h3 => by
      refine (fields_any s sb (sb + 1) w6 h1 h2 (by rw [← HSZ.out.2.2.1]; exact HSZ.out.1)).mono ?_
      rintro e w' ⟨nv, rfl, q1, q2⟩
      rw [← HSZ.out.2.2.1, ← hf] at q1 ⊢
      obtain ⟨na, nc, rfl⟩ := owns_form q1
      rw [← hn] at q1 ⊢
      unfold frameV
      rw [← hkd, ← hfr, ← hto, ← hsq]
      have hb6 := HB5.out.trans (h3.mono HB5.out.size)
      refine ⟨na, nc, rfl, ⟨_, q1⟩, hb6.trans (q2.below (fun k hk => ?_) hb6.size)⟩
      rcases hk with rfl | hk
      · rw [hsb]; exact Nat.le_trans HB5.out.size (Nat.le_succ _)
      · exact Nat.le_trans hb6.size hk
    clear hsum hf hsb hn hkd hfr hto hsq
    go_wp2_with fail
    refine KR.out.mono ?_
    rintro e w6 ⟨rfl, q1, q2, q3⟩
    have HF6 : Hid _ := KF.out w6 q1 q2 q3
    clear q1 q2 q3 KR KF
    go_wp2_with fail
    refine Calls.mono HF6.out ?_
    rintro e w7 ⟨na, nc, rfl, hrow, hb7⟩
    have hi7 : IsInts w7 (.slice na n nc) f.nums := by
      obtain ⟨B, hrow⟩ := hrow
      exact (isCap_of_owns hrow).1
    obtain ⟨fb, hfb⟩ : ∃ b, b = w7.heap.size := ⟨_, rfl⟩
    obtain ⟨w8, hw8⟩ : ∃ z, z = w7.alloc (.cells #[.int .u8 kd, .int .i64 fr, .int .i64 to, .int .i64 sq, .slice na n nc] TFr) := ⟨_, rfl⟩
    have hb78 : Below w7.heap.size w7 w8 := by rw [hw8]; exact below1 w7 _
    have hF8 : w8.heap[fb]? = some (.cells #[.int .u8 kd, .int .i64 fr, .int .i64 to, .int .i64 sq, .slice na n nc] TFr (0, 0)) := by rw [hw8, hfb]; exact heap_new w7 _
    have KC : Hid (Calls Tryd.prog 11 #[.agg #[.int .u8 kd, .int .i64 fr, .int .i64 to, .int .i64 sq, .slice na n nc]] w8 fun e w' => e = .returned (errV a (frameE f)) ∧ Below w8.heap.size w8 w') := by
      have := check_any a f (.slice na f.nums.length nc) w8 (HX.out w8 (hb7.trans (hb78.mono hb7.size))).2.1 (by rw [← HN2.out.1]; exact hi7.below hb78) HN2.out.2.2.2.2.2
      unfold frameV at this
      rw [← HN2.out.1, ← HN2.out.2.1, ← HN2.out.2.2.1, ← HN2.out.2.2.2.1, ← HN2.out.2.2.2.2.1] at this
      exact this
    have H8 : Hid ((∃ B, w8.ownsRow B TInt 1 (.slice na n nc) f.nums.length (f.nums.map intV)) ∧ Below W.heap.size W w8 ∧ w8.heap[fb]? = some (.cells #[.int .u8 kd, .int .i64 fr, .int .i64 to, .int .i64 sq, .slice na n nc] TFr (0, 0))) := ⟨by
      obtain ⟨B, hrow⟩ := hrow
      exact ⟨B, owns_below hrow hb78⟩, hb7.trans (hb78.mono hb7.size), hF8⟩
    obtain ⟨c0, c1, c2, c3, c4, -, -, -, -, -⟩ := resF hF8
    clear hrow hb7 hi7 hb78 hF8 HF6
    go_upto_region 7 with fail
    rw [← hfb, ← hw8]
    clear hfb hw8
    cases hfe : frameE f with
    | some i =>
      rw [hfe] at KC
      have hd : decodeD l = (noFrame, some i) := by rw [HDEC.out, hfe]
      clear hfe
      unfold errV at KC
      go_wp2_with fail
      refine KC.out.mono ?_
      rintro e w9 ⟨rfl, hb9⟩
      have hb := H8.out.2.1.trans (hb9.mono H8.out.2.1.size)
      have hX := (HX.out w9 hb).1
      obtain ⟨r0, r1, r2, r3, r4, f0, f1, f2, f3, f4⟩ := resF hX
      obtain ⟨wz, hwz⟩ : ∃ z, z = set5F w9 N (.int .u8 0) (.int .i64 0) (.int .i64 0) (.int .i64 0) (.slice none 0 0) := ⟨_, rfl⟩
      have h9 := set5F_blk hX (.int .u8 0) (.int .i64 0) (.int .i64 0) (.int .i64 0) (.slice none 0 0)
      rw [← hwz] at h9
      obtain ⟨z0, z1, z2, z3, z4, -, -, -, -, -⟩ := resF h9
      have hwz2 := hwz
      unfold set5F at hwz2
      have HZ : Hid _ := hwz2
      have HQ : Hid _ := HEND.out w9 wz i hd hb (Or.inl hwz)
      clear h9 hwz hwz2 hX hb hb9 hd KC HEND HX c0 c1 c2 c3 c4
      go_wp2_with fail
      rw [← HZ.out]
      refine bodyPost_ret (v := .tuple #[.agg #[.int .u8 0, .int .i64 0, .int .i64 0, .int .i64 0, .slice none 0 0], .iface 106 (.pointer (some (a i)))]) (by simp [results, Tryd.results13, go_sem, z0, z1, z2, z3, z4]) rfl ?_
      exact HQ.out
    | none =>
      rw [hfe] at KC
      have hd : decodeD l = (f, none) := by rw [HDEC.out, hfe]
      clear hfe
      unfold errV at KC
      go_wp2_with fail
      refine KC.out.mono ?_
      rintro e w9 ⟨rfl, hb9⟩
      have hb := H8.out.2.1.trans (hb9.mono H8.out.2.1.size)
      have hX := (HX.out w9 hb).1
      obtain ⟨r0, r1, r2, r3, r4, f0, f1, f2, f3, f4⟩ := resF hX
      obtain ⟨wz, hwz⟩ : ∃ z, z = set5F w9 N (.int .u8 kd) (.int .i64 fr) (.int .i64 to) (.int .i64 sq) (.slice na n nc) := ⟨_, rfl⟩
      have h9 := set5F_blk hX (.int .u8 kd) (.int .i64 fr) (.int .i64 to) (.int .i64 sq) (.slice na n nc)
      rw [← hwz] at h9
      obtain ⟨z0, z1, z2, z3, z4, -, -, -, -, -⟩ := resF h9
      have hwz2 := hwz
      unfold set5F at hwz2
      have HZ : Hid _ := hwz2
      have HQ : Hid (DecPost a l w wz (.returned (.tuple #[.agg #[.int .u8 kd, .int .i64 fr, .int .i64 to, .int .i64 sq, .slice na n nc], .nilIface]))) := by
        refine ⟨.slice na n nc, ?_, ?_, ?_⟩
        · rw [hd]
          unfold frameV
          simp only
          rw [← HN2.out.2.1, ← HN2.out.2.2.1, ← HN2.out.2.2.2.1, ← HN2.out.2.2.2.2.1]
          rfl
        · rw [hd, hwz]
          obtain ⟨B, hrow⟩ := H8.out.1
          have hr9 := owns_below hrow hb9
          have hl2 : (Value.slice na n nc) = .slice na f.nums.length nc := by rw [← HN2.out.1]
          exact isInts_set5F hX _ _ _ _ _ ⟨B, hr9⟩
        · rw [hwz]
          have h1 := (HX.out w9 hb).2.2
          exact h1.trans ((set5F_keep w9 N (.int .u8 kd) (.int .i64 fr) (.int .i64 to) (.int .i64 sq) (.slice na n nc) (· = N) rfl).below (fun k hk => by rw [hk, HNN.out.1]; exact Nat.le_refl _) h1.size)
      clear c0 c1 c2 c3 c4
      obtain ⟨c0, c1, c2, c3, c4, -, -, -, -, -⟩ := resF (block_keep hb9 H8.out.2.2)
      clear h9 hwz hwz2 hX hb hb9 hd KC HEND HX
      go_wp2_with fail
      rw [← HZ.out]
      refine bodyPost_ret (v := .tuple #[.agg #[.int .u8 kd, .int .i64 fr, .int .i64 to, .int .i64 sq, .slice na n nc], .nilIface]) (by simp [results, Tryd.results13, go_sem, z0, z1, z2, z3, z4]) rfl ?_
      exact HQ.out
end Go.Proofs.YtbppimahedbpoaaDoor

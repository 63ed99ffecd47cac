/-
  The document's run: Begin, and what an address is of (get), by contracts.
-/
import Derived.Test.YtdbcjeccmjpbiabDoorTA
import Derived.Test.YtdbcjeccmjpbiabDoorRE
namespace Go.Proofs.YtdbcjeccmjpbiabDoor
open Go.RowKit Go.Extern.Stop Go.Stop Go.Extern

theorem vcells_rep (k : Nat) : vcells (List.replicate k none ++ [none]) = vcells (List.replicate (k + 1) none) := by
  rw [← List.replicate_succ']
set_option maxRecDepth 100000 in
set_option maxHeartbeats 4000000 in
theorem begin_any (P : ProgD) (v1 v2 v3 : Value) (w : World) (hs : SmallP P) (h : IsProg w v1 v2 v3 P) :
    Calls Tryd.prog 13 #[.agg #[v1, v2, v3]] w fun e w' => ∃ sb Bt xv, e = .returned (.pointer (some ⟨sb, 0, none⟩)) ∧ RSt w' w.heap.size Bt sb P.vars.length (st0 P.vars.length) xv (.slice none 0 0) (.slice none 0 0) ∧ Below w.heap.size w w' := by
  obtain ⟨⟨a1, c1, rfl, -, -⟩, ⟨a2, c2, rfl, -, -⟩, ⟨a3, c3, rfl, -, -⟩⟩ := h
  have hs1 := hs.1
  obtain ⟨n1, hn1⟩ : ∃ m, m = P.vars.length := ⟨_, rfl⟩
  obtain ⟨n2, hn2⟩ : ∃ m, m = P.funs.length := ⟨_, rfl⟩
  obtain ⟨n3, hn3⟩ : ∃ m, m = P.stmts.length := ⟨_, rfl⟩
  rw [← hn1, ← hn2, ← hn3]
  rw [← hn1] at hs1
  clear hs hn1 hn2 hn3
  obtain ⟨W0, hW0⟩ : ∃ W, W = w.alloc (.cells #[.slice a1 n1 c1, .slice a2 n2 c2, .slice a3 n3 c3] 26) := ⟨_, rfl⟩
  have hb0 : Below w.heap.size w W0 := by rw [hW0]; exact below1 w _
  have hz0 : W0.heap.size = w.heap.size + 1 := by rw [hW0]; simp
  have HX : Hid (W0.heap[w.heap.size]? = some (.cells #[.slice a1 n1 c1, .slice a2 n2 c2, .slice a3 n3 c3] 26)) := by show _ = _; rw [hW0]; exact heap_new w _
  obtain ⟨W, hW⟩ : ∃ W, W = W0.alloc (.cells #[.slice none 0 0, .slice none 0 0, .slice none 0 0] 55) := ⟨_, rfl⟩
  have hbW : Below w.heap.size w W := by rw [hW]; exact hb0.alloc hb0.size _
  have HS0 : Hid (W.heap[w.heap.size + 1]? = some (.cells #[.slice none 0 0, .slice none 0 0, .slice none 0 0] 55)) := by show _ = _; rw [hW, ← hz0]; exact heap_new W0 _
  have HXW : Hid (W.heap[w.heap.size]? = some (.cells #[.slice a1 n1 c1, .slice a2 n2 c2, .slice a3 n3 c3] 26)) := by show _ = _; rw [hW]; exact block_keep (below1 _ _) HX.out
  rw [hW0] at hW
  clear hz0 hb0 HX hW0
  go_enter Tryd.func13, Tryd.ntmps13
  go_wp2_with fail
  rw [← hW]
  clear hW
  go_loopw [4] (fun t wr => ∃ (k : Nat) (u : Value), k ≤ n1 ∧ t = .int .i64 k ∧ wr.heap[w.heap.size + 1]? = some (.cells #[u, .slice none 0 0, .slice none 0 0] 55) ∧ wr.heap[w.heap.size]? = some (.cells #[.slice a1 n1 c1, .slice a2 n2 c2, .slice a3 n3 c3] 26) ∧ wr.ownsRow w.heap.size TRV 2 u k (vcells (List.replicate k none)) ∧ Below w.heap.size w wr) (fun t _ => (n1 - intOf t).toNat)
  case atStart => exact ⟨0, .slice none 0 0, Nat.zero_le _, rfl, HS0.out, HXW.out, World.ownsRow_nil _ _ _ _, hbW⟩
  case round =>
    obtain ⟨k, u, hk, rfl, hblk, hbx, ho, hB⟩ := hrel
    have p0 : wr.cell? ⟨w.heap.size, 0, none⟩ = some (.slice a1 n1 c1) := by rw [Lib.cell_of_heap hbx]; rfl
    by_cases hlt : k < n1
    · obtain ⟨v', w2, hr, ho2, hb2, hk2⟩ := append_one wr w.heap.size u k 2 24 53 TRV (.agg #[.string ⟨#[]⟩, .int .i64 0]) (vcells (List.replicate k none)) (valCells none) ho hB.size Tryd.underlying53 Tryd.infoRV (by decide) rfl rfl (fun x hx => by
        simp only [valCells, List.mem_cons, List.not_mem_nil, or_false] at hx
        rcases hx with rfl | rfl <;> rfl) (by omega) 53 (by decide)
      obtain ⟨ua, uc, rfl⟩ := owns_form ho
      obtain ⟨va, vc, rfl⟩ := owns_form ho2
      have hm2 := hk2 _ _ _ _ hblk (by decide)
      have hx2 := hk2 _ _ _ _ hbx (by decide)
      have s0 : wr.cell? ⟨w.heap.size + 1, 0, none⟩ = some (.slice ua k uc) := by rw [Lib.cell_of_heap hblk]; rfl
      have s2 : w2.cell? ⟨w.heap.size + 1, 0, none⟩ = some (.slice ua k uc) := by rw [Lib.cell_of_heap hm2]; rfl
      have f2 := Lib.frozen_of_heap hm2 0
      have hset := kept_setCell (i := 0) hm2 (.slice va (k + 1) vc)
      have HN : Hid ((w2.setCell ⟨w.heap.size + 1, 0, none⟩ (.slice va (k + 1) vc)).heap[w.heap.size + 1]? = some (.cells #[.slice va (k + 1) vc, .slice none 0 0, .slice none 0 0] 55) ∧ (w2.setCell ⟨w.heap.size + 1, 0, none⟩ (.slice va (k + 1) vc)).heap[w.heap.size]? = some (.cells #[.slice a1 n1 c1, .slice a2 n2 c2, .slice a3 n3 c3] 26) ∧ (w2.setCell ⟨w.heap.size + 1, 0, none⟩ (.slice va (k + 1) vc)).ownsRow w.heap.size TRV 2 (.slice va (k + 1) vc) (k + 1) (vcells (List.replicate (k + 1) none)) ∧ Below w.heap.size w (w2.setCell ⟨w.heap.size + 1, 0, none⟩ (.slice va (k + 1) vc))) := by
        refine ⟨by rw [set_block _ _ _ _ _ _ hm2]; rfl, hset _ _ _ _ hx2 (by decide), ?_, (hB.trans hb2).setCell (by simp) _⟩
        have := owns_kept ho2 hset (by decide)
        rw [← vcells_rep, vcells_snoc]; exact this
      have HR : Hid ((Builtin.append_ #[53, 53] 53 #[.slice ua k uc, .slice (some ⟨wr.heap.size, 0, none⟩) 1 1]).run Tryd.prog (wr.alloc (.cells #[.string ⟨#[110, 111, 110, 101]⟩, .int .i64 0] TRV)) = .ok (.slice va (k + 1) vc) w2) := hr
      clear hr ho2 hb2 hk2 hblk hbx ho hm2 hx2 hset
      go_wp2_with (at_builtin; refine Lib.wpList_append_run _ rfl _ _ _ _ rfl _ _ rfl rfl _ _ HR.out ?_)
      go_roundw
      case rel => exact ⟨k + 1, .slice va (k + 1) vc, hlt, by go_num, HN.out.1, HN.out.2.1, HN.out.2.2.1, HN.out.2.2.2⟩
      case measure => simp [intOf]; omega
    · obtain rfl : k = n1 := by omega
      have HF : Hid (RSt wr w.heap.size wr.heap.size (w.heap.size + 1) k (st0 k) u (.slice none 0 0) (.slice none 0 0)) := ⟨by omega, hB.size, Nat.le_refl _, hblk, ho, fun g hg => (ho.lt g hg).2, World.ownsRow_nil _ _ _ _, World.ownsRow_nil _ _ _ _, rfl, by simp [st0]⟩
      clear hblk hbx ho
      go_wp2_with fail
      go_ret
      exact ⟨_, _, _, rfl, HF.out, hB⟩

abbrev valBox (K : ByteArray) (N : Int) : Obj := .cells #[.string K, .int .i64 N] TRV
theorem res2_cells {w : World} {r : Nat} {a b : Value} {T : TypeId} (h : w.heap[r]? = some (.cells #[a, b] T (0, 0))) (x0 x1 : Value) : ((w.setCell ⟨r, 0, none⟩ x0).setCell ⟨r, 1, none⟩ x1).cell? ⟨r, 0, none⟩ = some x0 ∧ ((w.setCell ⟨r, 0, none⟩ x0).setCell ⟨r, 1, none⟩ x1).cell? ⟨r, 1, none⟩ = some x1 := by
  have h1 := set_block _ _ 0 _ _ _ h x0
  have h2 := set_block _ _ 1 _ _ _ h1 x1
  exact ⟨by rw [Lib.cell_of_heap h2]; rfl, by rw [Lib.cell_of_heap h2]; rfl⟩
theorem keep4o {w : World} {p0 p1 p2 p3 r : Nat} {o0 o1 o2 o3 : Nat} {v0 v1 v2 v3 x0 x1 : Value} (h0 : w.cell? ⟨p0, o0, none⟩ = some v0) (h1 : w.cell? ⟨p1, o1, none⟩ = some v1) (h2 : w.cell? ⟨p2, o2, none⟩ = some v2) (h3 : w.cell? ⟨p3, o3, none⟩ = some v3) (n0 : p0 ≠ r) (n1 : p1 ≠ r) (n2 : p2 ≠ r) (n3 : p3 ≠ r) :
    ((w.setCell ⟨r, 0, none⟩ x0).setCell ⟨r, 1, none⟩ x1).cell? ⟨p0, o0, none⟩ = some v0 ∧ ((w.setCell ⟨r, 0, none⟩ x0).setCell ⟨r, 1, none⟩ x1).cell? ⟨p1, o1, none⟩ = some v1 ∧ ((w.setCell ⟨r, 0, none⟩ x0).setCell ⟨r, 1, none⟩ x1).cell? ⟨p2, o2, none⟩ = some v2 ∧ ((w.setCell ⟨r, 0, none⟩ x0).setCell ⟨r, 1, none⟩ x1).cell? ⟨p3, o3, none⟩ = some v3 :=
  ⟨other_cell (other_cell h0 n0) n0, other_cell (other_cell h1 n1) n1, other_cell (other_cell h2 n2) n2, other_cell (other_cell h3 n3) n3⟩
set_option maxRecDepth 100000 in
set_option maxHeartbeats 4000000 in
/-- get of a variable's address. -/
theorem get_V {sb g i n cap : Nat} {K : ByteArray} {N : Int} (w : World) (hi : i < n) (c0 : w.cell? ⟨sb, 0, none⟩ = some (.slice (some ⟨g, 0, none⟩) n cap)) (e0 : w.cell? ⟨g, i * 2, none⟩ = some (.string K)) (e1 : w.cell? ⟨g, i * 2 + 1, none⟩ = some (.int .i64 N)) :
    Calls Tryd.prog 31 #[.pointer (some ⟨sb, 0, none⟩), .agg #[.string ⟨#[118, 97, 114]⟩, .int .i64 (i : Int)]] w fun e w' => e = .returned (.tuple #[.agg #[.string K, .int .i64 N], .bool true]) ∧ Below w.heap.size w w' := by
  have hii : (i : Int) < n := by omega
  have n0 : sb ≠ w.heap.size + 1 := by have : sb < w.heap.size := lt_of_cell c0; omega
  have n1 : g ≠ w.heap.size + 1 := by have : g < w.heap.size := lt_of_cell e0; omega
  have n2 : w.heap.size ≠ w.heap.size + 1 := by omega
  obtain ⟨W, hW⟩ : ∃ W, W = (w.alloc (valBox ⟨#[118, 97, 114]⟩ (i : Int))).alloc (valBox ⟨#[]⟩ 0) := ⟨_, rfl⟩
  have hBW : Below w.heap.size w W := by rw [hW]; exact (below1 w _).alloc (by simp) _
  have HZB : Hid (W.heap[w.heap.size + 1]? = some (valBox ⟨#[]⟩ 0)) := by
    show _ = _
    rw [hW]
    have := heap_new (w.alloc (valBox ⟨#[118, 97, 114]⟩ (i : Int))) (valBox ⟨#[]⟩ 0)
    simpa using this
  have hbx : W.heap[w.heap.size]? = some (valBox ⟨#[118, 97, 114]⟩ (i : Int)) := by rw [hW]; exact block_keep (below1 _ _) (heap_new w _)
  have b0 : W.cell? ⟨w.heap.size, 0, none⟩ = some (.string ⟨#[118, 97, 114]⟩) := by rw [Lib.cell_of_heap hbx]; rfl
  have b1 : W.cell? ⟨w.heap.size, 1, none⟩ = some (.int .i64 (i : Int)) := by rw [Lib.cell_of_heap hbx]; rfl
  have z0 : W.cell? ⟨w.heap.size + 1, 0, none⟩ = some (.string ⟨#[]⟩) := by rw [Lib.cell_of_heap HZB.out]; rfl
  have z1 : W.cell? ⟨w.heap.size + 1, 1, none⟩ = some (.int .i64 0) := by rw [Lib.cell_of_heap HZB.out]; rfl
  have y0 := frozen_of_block HZB.out 0
  have y1 := frozen_of_block HZB.out 1
  replace c0 := cell_keep hBW c0
  replace e0 := cell_keep hBW e0
  replace e1 := cell_keep hBW e1
  clear hbx
  go_enter Tryd.func31, Tryd.ntmps31
  go_upto_region 2 with fail
  rw [← hW]
  clear hW
  go_region_held3 (fun wx => wx.cell? ⟨sb, 0, none⟩ = some (.slice (some ⟨g, 0, none⟩) n cap) ∧ wx.cell? ⟨w.heap.size, 1, none⟩ = some (.int .i64 (i : Int)) ∧ wx.cell? ⟨g, i * 2, none⟩ = some (.string K) ∧ wx.cell? ⟨g, i * 2 + 1, none⟩ = some (.int .i64 N))
    ((go_split_ands; first | exact ⟨c0, b1, e0, e1⟩ | exact keep4o c0 b1 e0 e1 n0 n2 n1 n1)) (fail)
  go_wp2_with fail
  obtain ⟨r0, r1⟩ := res2_cells HZB.out (.string K) (.int .i64 N)
  refine bodyPost_ret (v := .tuple #[.agg #[.string K, .int .i64 N], .bool true]) (by simp [results, Tryd.results31, go_sem, r0, r1]) rfl ?_
  exact ⟨rfl, ((hBW.setCell (by simp) _).setCell (by simp) _).drew⟩
set_option maxRecDepth 100000 in
set_option maxHeartbeats 4000000 in
theorem get_T {sb g i n cap : Nat} {K : ByteArray} {N : Int} (w : World) (hi : i < n) (c0 : w.cell? ⟨sb, 1, none⟩ = some (.slice (some ⟨g, 0, none⟩) n cap)) (e0 : w.cell? ⟨g, i * 2, none⟩ = some (.string K)) (e1 : w.cell? ⟨g, i * 2 + 1, none⟩ = some (.int .i64 N)) :
    Calls Tryd.prog 31 #[.pointer (some ⟨sb, 0, none⟩), .agg #[.string ⟨#[116, 104, 105, 110, 103]⟩, .int .i64 (i : Int)]] w fun e w' => e = .returned (.tuple #[.agg #[.string K, .int .i64 N], .bool true]) ∧ Below w.heap.size w w' := by
  have hii : (i : Int) < n := by omega
  have n0 : sb ≠ w.heap.size + 1 := by have : sb < w.heap.size := lt_of_cell c0; omega
  have n1 : g ≠ w.heap.size + 1 := by have : g < w.heap.size := lt_of_cell e0; omega
  have n2 : w.heap.size ≠ w.heap.size + 1 := by omega
  obtain ⟨W, hW⟩ : ∃ W, W = (w.alloc (valBox ⟨#[116, 104, 105, 110, 103]⟩ (i : Int))).alloc (valBox ⟨#[]⟩ 0) := ⟨_, rfl⟩
  have hBW : Below w.heap.size w W := by rw [hW]; exact (below1 w _).alloc (by simp) _
  have HZB : Hid (W.heap[w.heap.size + 1]? = some (valBox ⟨#[]⟩ 0)) := by
    show _ = _
    rw [hW]
    have := heap_new (w.alloc (valBox ⟨#[116, 104, 105, 110, 103]⟩ (i : Int))) (valBox ⟨#[]⟩ 0)
    simpa using this
  have hbx : W.heap[w.heap.size]? = some (valBox ⟨#[116, 104, 105, 110, 103]⟩ (i : Int)) := by rw [hW]; exact block_keep (below1 _ _) (heap_new w _)
  have b0 : W.cell? ⟨w.heap.size, 0, none⟩ = some (.string ⟨#[116, 104, 105, 110, 103]⟩) := by rw [Lib.cell_of_heap hbx]; rfl
  have b1 : W.cell? ⟨w.heap.size, 1, none⟩ = some (.int .i64 (i : Int)) := by rw [Lib.cell_of_heap hbx]; rfl
  have z0 : W.cell? ⟨w.heap.size + 1, 0, none⟩ = some (.string ⟨#[]⟩) := by rw [Lib.cell_of_heap HZB.out]; rfl
  have z1 : W.cell? ⟨w.heap.size + 1, 1, none⟩ = some (.int .i64 0) := by rw [Lib.cell_of_heap HZB.out]; rfl
  have y0 := frozen_of_block HZB.out 0
  have y1 := frozen_of_block HZB.out 1
  replace c0 := cell_keep hBW c0
  replace e0 := cell_keep hBW e0
  replace e1 := cell_keep hBW e1
  clear hbx
  go_enter Tryd.func31, Tryd.ntmps31
  go_upto_region 4 with fail
  rw [← hW]
  clear hW
  go_region_held3 (fun wx => wx.cell? ⟨sb, 1, none⟩ = some (.slice (some ⟨g, 0, none⟩) n cap) ∧ wx.cell? ⟨w.heap.size, 1, none⟩ = some (.int .i64 (i : Int)) ∧ wx.cell? ⟨g, i * 2, none⟩ = some (.string K) ∧ wx.cell? ⟨g, i * 2 + 1, none⟩ = some (.int .i64 N))
    ((go_split_ands; first | exact ⟨c0, b1, e0, e1⟩ | exact keep4o c0 b1 e0 e1 n0 n2 n1 n1)) (fail)
  go_wp2_with fail
  obtain ⟨r0, r1⟩ := res2_cells HZB.out (.string K) (.int .i64 N)
  refine bodyPost_ret (v := .tuple #[.agg #[.string K, .int .i64 N], .bool true]) (by simp [results, Tryd.results31, go_sem, r0, r1]) rfl ?_
  exact ⟨rfl, ((hBW.setCell (by simp) _).setCell (by simp) _).drew⟩
set_option maxRecDepth 100000 in
set_option maxHeartbeats 4000000 in
theorem get_N {sb : Nat} {K : ByteArray} {N : Int} (w : World) (h1 : (K.toList == [118, 97, 114]) = false) (h2 : (K.toList == [116, 104, 105, 110, 103]) = false) :
    Calls Tryd.prog 31 #[.pointer (some ⟨sb, 0, none⟩), .agg #[.string K, .int .i64 N]] w fun e w' => e = .returned (.tuple #[.agg #[.string ⟨#[]⟩, .int .i64 0], .bool false]) ∧ Below w.heap.size w w' := by
  obtain ⟨W, hW⟩ : ∃ W, W = (w.alloc (valBox K N)).alloc (valBox ⟨#[]⟩ 0) := ⟨_, rfl⟩
  have hBW : Below w.heap.size w W := by rw [hW]; exact (below1 w _).alloc (by simp) _
  have HZB : Hid (W.heap[w.heap.size + 1]? = some (valBox ⟨#[]⟩ 0)) := by
    show _ = _
    rw [hW]
    have := heap_new (w.alloc (valBox K N)) (valBox ⟨#[]⟩ 0)
    simpa using this
  have hbx : W.heap[w.heap.size]? = some (valBox K N) := by rw [hW]; exact block_keep (below1 _ _) (heap_new w _)
  have b0 : W.cell? ⟨w.heap.size, 0, none⟩ = some (.string K) := by rw [Lib.cell_of_heap hbx]; rfl
  have z0 : W.cell? ⟨w.heap.size + 1, 0, none⟩ = some (.string ⟨#[]⟩) := by rw [Lib.cell_of_heap HZB.out]; rfl
  have z1 : W.cell? ⟨w.heap.size + 1, 1, none⟩ = some (.int .i64 0) := by rw [Lib.cell_of_heap HZB.out]; rfl
  have y0 := frozen_of_block HZB.out 0
  have y1 := frozen_of_block HZB.out 1
  clear hbx
  go_enter Tryd.func31, Tryd.ntmps31
  go_upto_region 1 with fail
  rw [← hW]
  clear hW
  go_wp2_with fail
  obtain ⟨r0, r1⟩ := res2_cells HZB.out (.string ⟨#[]⟩) (.int .i64 0)
  refine bodyPost_ret (v := .tuple #[.agg #[.string ⟨#[]⟩, .int .i64 0], .bool false]) (by simp [results, Tryd.results31, go_sem, r0, r1]) rfl ?_
  exact ⟨rfl, (hBW.setCell (by simp) _).setCell (by simp) _⟩
theorem get_any {w : World} {B Bt sb n1 n2 : Nat} {s : StD} {xv xt xp : Value} (h : RSt w B Bt sb n1 s xv xt xp) (o : Option Ref) (ho : OkO n1 n2 s.things.length o) :
    Calls Tryd.prog 31 #[.pointer (some ⟨sb, 0, none⟩), .agg #[.string (valK o), .int .i64 (valN o)]] w fun e w' => ∃ K N, e = .returned (.tuple #[.agg #[.string K, .int .i64 N], .bool (holdsO o)]) ∧ (∀ r, o = some r → r.isFn = false → K = valK (s.get r) ∧ N = valN (s.get r)) ∧ Below w.heap.size w w' := by
  obtain ⟨c0, c1, -⟩ := h.cells
  cases o with
  | none =>
    refine (get_N w (by simp only [valK, ByteArray.toList_eq]; decide) (by simp only [valK, ByteArray.toList_eq]; decide)).mono fun e w' ⟨he, hb⟩ => ⟨_, _, he, (fun r hr => by cases hr), hb⟩
  | some r =>
    have hr := ho r rfl
    cases r using ref_cases with
    | var i =>
      have hi : i < n1 := hr
      obtain ⟨g, cap, cs, rfl, -, -, -, -, hrow⟩ := h.vrow (by omega)
      refine (get_V w hi c0 (hrow i hi).1 (hrow i hi).2).mono fun e w' ⟨he, hb⟩ => ⟨_, _, he, fun r hr' _ => ?_, hb⟩
      cases hr'
      exact ⟨rfl, rfl⟩
    | thing i =>
      have hi : i < s.things.length := hr
      obtain ⟨g, cap, cs, rfl, -, -, -, hrow⟩ := h.trow (by omega)
      refine (get_T w hi c1 (hrow i hi).1 (hrow i hi).2).mono fun e w' ⟨he, hb⟩ => ⟨_, _, he, fun r hr' _ => ?_, hb⟩
      cases hr'
      exact ⟨rfl, rfl⟩
    | fn i =>
      refine (get_N w (by simp only [valK, refKind, ByteArray.toList_eq]; decide) (by simp only [valK, refKind, ByteArray.toList_eq]; decide)).mono fun e w' ⟨he, hb⟩ => ⟨_, _, he, fun r hr' hf => ?_, hb⟩
      cases hr'
      cases hf
end Go.Proofs.YtdbcjeccmjpbiabDoor

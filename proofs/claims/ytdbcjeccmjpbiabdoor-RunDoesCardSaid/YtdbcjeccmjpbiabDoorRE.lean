/-
  Package run: newMachine, by a contract.
-/
import Derived.Test.YtdbcjeccmjpbiabDoorRD
import Derived.Deep.RegionHeld3
namespace Go.Proofs.YtdbcjeccmjpbiabDoor
open Go.RowKit Go.Extern.Stop Go.Stop Go.Extern

def st0 (n : Nat) : StD := ⟨List.replicate n none, [], []⟩
theorem keep3 {w0 w : World} {p0 p1 p2 : Addr} {v0 v1 v2 : Value} (k0 : w0.cell? p0 = some v0) (k1 : w0.cell? p1 = some v1) (k2 : w0.cell? p2 = some v2) (hb : Below w0.heap.size w0 w) : Below w0.heap.size w0 w ∧ w.cell? p0 = some v0 ∧ w.cell? p1 = some v1 ∧ w.cell? p2 = some v2 :=
  ⟨hb, cell_keep hb k0, cell_keep hb k1, cell_keep hb k2⟩
theorem below_al {w0 w : World} (h : Below w0.heap.size w0 w) (o : Obj) : Below w0.heap.size w0 (w.alloc o) := h.alloc h.size o

theorem owns_block {w : World} {B g n c : Nat} {e : TypeId} {xs : List Value} (h : w.ownsRow B e 1 (.slice (some ⟨g, 0, none⟩) n c) n xs) : g < w.heap.size := by
  rcases h.2 with ⟨q, _⟩ | ⟨g', cap, cur, q, _, hh, _⟩
  · cases q
  · cases q
    exact (Array.getElem?_eq_some_iff.1 hh).1
theorem mach_new {w5 w6 : World} {B n1 n2 g1 : Nat} {bs1 bs2 : List Nat} (v1 v2 v3 : Value) (hw : B ≤ g1) (h1 : bs1.length = n1) (ho1 : w5.ownsRow g1 90 1 (.slice (some ⟨g1, 0, none⟩) n1 n1) n1 (bs1.map ptrV))
    (hc1 : ∀ i, i < n1 → g1 ≤ bs1.getD i 0 ∧ w5.heap[bs1.getD i 0]? = some (.cells #[.string ⟨#[118, 97, 114]⟩, .int .i64 (i : Int), .pointer none] 92 (0, 0))) (h2 : bs2.length = n2)
    (ho2 : w6.ownsRow w5.heap.size 90 1 (.slice (some ⟨w5.heap.size, 0, none⟩) n2 n2) n2 (bs2.map ptrV)) (hc2 : ∀ i, i < n2 → w5.heap.size ≤ bs2.getD i 0 ∧ w6.heap[bs2.getD i 0]? = some (.cells #[.string ⟨#[102, 117, 110]⟩, .int .i64 (i : Int), .pointer none] 92 (0, 0)))
    (hB : Below w5.heap.size w5 w6) :
    Mach (w6.alloc (.cells #[v1, v2, v3, .slice (some ⟨g1, 0, none⟩) n1 n1, .slice (some ⟨w5.heap.size, 0, none⟩) n2 n2, .slice none 0 0, .slice none 0 0] 89)) B (w6.heap.size + 1) w6.heap.size n1 n2 (st0 n1) ⟨bs1, bs2, []⟩ v1 v2 v3 (.slice (some ⟨g1, 0, none⟩) n1 n1) (.slice (some ⟨w5.heap.size, 0, none⟩) n2 n2) (.slice none 0 0) (.slice none 0 0) := by
  have hg1 := owns_block ho1
  have hg2 := owns_block ho2
  have hs := hB.size
  refine ⟨by omega, by omega, by simp, heap_new w6 _, owns_mono (owns_below (owns_below ho1 hB) (below1 w6 _)) hw, owns_mono (owns_below ho2 (below1 w6 _)) (by omega), ?_, ?_, World.ownsRow_nil _ _ _ _, World.ownsRow_nil _ _ _ _, h1, h2, rfl, rfl, by simp [st0], ?_, ?_, ?_⟩
  · intro g hg
    have : g1 = g := by simpa [Value.ownBlock] using hg
    omega
  · intro g hg
    have : w5.heap.size = g := by simpa [Value.ownBlock] using hg
    omega
  · intro r hr
    cases r using ref_cases with
    | var i =>
      obtain ⟨q1, q2⟩ := hc1 i hr
      have hg : (st0 n1).get (.var i) = none := by
        have hi : i < n1 := hr
        simp [StD.get, st0, List.getD, hi]
      unfold CellAt
      rw [hg]
      exact ⟨Nat.le_trans hw q1, block_keep (below1 w6 _) (block_keep hB q2)⟩
    | fn i =>
      obtain ⟨q1, q2⟩ := hc2 i hr
      exact ⟨Nat.le_trans (by omega) q1, block_keep (below1 w6 _) q2⟩
    | thing i => exact absurd hr (Nat.not_lt_zero _)
  · intro r hr x hx
    rw [List.eq_of_mem_replicate hr] at hx
    cases hx
  · intro r hr
    cases hr

set_option maxRecDepth 100000 in
set_option maxHeartbeats 8000000 in
theorem newMachine_any (P : ProgD) (v1 v2 v3 : Value) (w : World) (hs : SmallP P) (h : IsProg w v1 v2 v3 P) :
    Calls Tryd.prog 21 #[.agg #[v1, v2, v3]] w fun e w' => ∃ mb Bt l xv xf, e = .returned (.pointer (some ⟨mb, 0, none⟩)) ∧ Mach w' w.heap.size Bt mb P.vars.length P.funs.length (st0 P.vars.length) l v1 v2 v3 xv xf (.slice none 0 0) (.slice none 0 0) ∧ Below w.heap.size w w' := by
  obtain ⟨⟨a1, c1, rfl, -, -⟩, ⟨a2, c2, rfl, -, -⟩, ⟨a3, c3, rfl, -, -⟩⟩ := h
  obtain ⟨n1, hn1⟩ : ∃ m, m = P.vars.length := ⟨_, rfl⟩
  obtain ⟨n2, hn2⟩ : ∃ m, m = P.funs.length := ⟨_, rfl⟩
  obtain ⟨n3, hn3⟩ : ∃ m, m = P.stmts.length := ⟨_, rfl⟩
  have hs1 : n1 ≤ 1000000 := by rw [hn1]; have := hs.1; omega
  have hs2 : n2 ≤ 1000000 := by rw [hn2]; have := hs.2.1; omega
  rw [← hn1, ← hn2, ← hn3]
  obtain ⟨W, hW⟩ : ∃ W, W = w.alloc (.cells #[.slice a1 n1 c1, .slice a2 n2 c2, .slice a3 n3 c3] 26) := ⟨_, rfl⟩
  have hBW : Below w.heap.size w W := by rw [hW]; exact below1 w _
  have hX : Box3 W w.heap.size (.slice a1 n1 c1) (.slice a2 n2 c2) (.slice a3 n3 c3) := by rw [hW]; exact box3_new w _ _ _ _
  obtain ⟨p0, p1, p2⟩ := hX
  have KV : Hid (∀ wx, Calls Tryd.prog 40 #[.string ⟨#[118, 97, 114]⟩, .int .i64 (n1 : Int)] wx fun e w' => ∃ bs : List Nat, bs.length = n1 ∧ e = .returned (.slice (some ⟨wx.heap.size, 0, none⟩) n1 n1) ∧ w'.ownsRow wx.heap.size 90 1 (.slice (some ⟨wx.heap.size, 0, none⟩) n1 n1) n1 (bs.map ptrV) ∧ (∀ i, i < n1 → wx.heap.size ≤ bs.getD i 0 ∧ w'.heap[bs.getD i 0]? = some (.cells #[.string ⟨#[118, 97, 114]⟩, .int .i64 (i : Int), .pointer none] 92 (0, 0))) ∧ Below wx.heap.size wx w') := fun wx => newCells_any _ n1 wx hs1
  have KF : Hid (∀ wx, Calls Tryd.prog 40 #[.string ⟨#[102, 117, 110]⟩, .int .i64 (n2 : Int)] wx fun e w' => ∃ bs : List Nat, bs.length = n2 ∧ e = .returned (.slice (some ⟨wx.heap.size, 0, none⟩) n2 n2) ∧ w'.ownsRow wx.heap.size 90 1 (.slice (some ⟨wx.heap.size, 0, none⟩) n2 n2) n2 (bs.map ptrV) ∧ (∀ i, i < n2 → wx.heap.size ≤ bs.getD i 0 ∧ w'.heap[bs.getD i 0]? = some (.cells #[.string ⟨#[102, 117, 110]⟩, .int .i64 (i : Int), .pointer none] 92 (0, 0))) ∧ Below wx.heap.size wx w') := fun wx => newCells_any _ n2 wx hs2
  clear hn1 hn2 hn3 hs
  go_enter Tryd.func21, Tryd.ntmps21
  go_upto_region 1 with fail
  rw [← hW]
  clear hW
  go_region_held3 (fun wx => Below W.heap.size W wx ∧ wx.cell? ⟨w.heap.size, 0, none⟩ = some (.slice a1 n1 c1) ∧ wx.cell? ⟨w.heap.size, 1, none⟩ = some (.slice a2 n2 c2) ∧ wx.cell? ⟨w.heap.size, 2, none⟩ = some (.slice a3 n3 c3))
    ((go_split_ands; refine keep3 p0 p1 p2 ?_; repeat (with_reducible first | assumption | exact Below.refl _ _ | refine Below.drew ?_ | refine below_al ?_ _)))
    (first
      | (go_at_call 40; have hguard := hb5.size; clear hguard; refine (KF.out _).mono ?_; rintro e w6 ⟨bs2, f1, rfl, f2, f3, f4⟩; have hb6 : Below W.heap.size W w6 := hb5.trans (f4.mono hb5.size); have F3 : Hid (∀ i, i < n2 → w5.heap.size ≤ bs2.getD i 0 ∧ w6.heap[bs2.getD i 0]? = some (.cells #[.string ⟨#[102, 117, 110]⟩, .int .i64 (i : Int), .pointer none] 92 (0, 0))) := f3; clear f3)
      | (go_at_call 40; refine (KV.out _).mono ?_; rintro e w5 ⟨bs1, g1, rfl, g2, g3, g4⟩; have hb5 : Below W.heap.size W w5 := Below.trans (Below.refl _ W).drew (Below.mono g4 (Nat.le_refl _)); have G3 : Hid (∀ i, i < n1 → W.heap.size ≤ bs1.getD i 0 ∧ w5.heap[bs1.getD i 0]? = some (.cells #[.string ⟨#[118, 97, 114]⟩, .int .i64 (i : Int), .pointer none] 92 (0, 0))) := g3; clear g3 g4))
  go_wp2_with fail
  go_ret
  refine ⟨_, _, _, _, _, rfl, mach_new _ _ _ hBW.size g1 g2 G3.out f1 f2 F3.out f4, ?_⟩
  exact (hBW.trans (hb6.mono hBW.size)).alloc (hBW.trans (hb6.mono hBW.size)).size _
end Go.Proofs.YtdbcjeccmjpbiabDoor

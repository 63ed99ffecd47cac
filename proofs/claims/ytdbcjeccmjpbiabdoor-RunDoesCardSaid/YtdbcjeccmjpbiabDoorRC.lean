/-
  Package run: (*machine).newThing, by a contract.
-/
import Derived.Test.YtdbcjeccmjpbiabDoorRB
namespace Go.Proofs.YtdbcjeccmjpbiabDoor
open Go.RowKit Go.Extern.Stop Go.Stop Go.Extern

theorem Tryd.infoCellP : (Tryd.prog.info? 90).map (fun i => (i.zero, i.size, i.bytes)) = some (some (.pointer none), 1, 8) := by kernel_rfl
theorem owns_low {w w' : World} {B Bt : Nat} {e : TypeId} {k : Nat} {v : Value} {n : Nat} {xs : List Value} (h : w.ownsRow B e k v n xs) (hg : ∀ g, v.ownBlock = some g → g < Bt) (hb : Below Bt w w') : w'.ownsRow B e k v n xs := by
  refine ⟨h.1, ?_⟩
  rcases h.2 with h2 | ⟨g, cap, cur, hv, hg', hh, r⟩
  · exact Or.inl h2
  · exact Or.inr ⟨g, cap, cur, hv, hg', by rw [hb.block g (hg g (by rw [hv]; rfl))]; exact hh, r⟩
def addT (s : StD) (k : Int) : StD := { s with things := s.things ++ [none], places := s.places ++ [k] }
def layT (l : Lay) (b : Nat) : Lay := { l with tb := l.tb ++ [b] }
theorem at_layT {l : Lay} {b n1 n2 nt : Nat} {r : Ref} (hl : l.tb.length = nt) (hr : r.ok n1 n2 nt) : (layT l b).at r = l.at r := by
  cases r using ref_cases with
  | var i => rfl
  | fn i => rfl
  | thing i =>
    have hi : i < nt := hr
    exact getD_snoc_left l.tb b 0 i (by omega)
theorem has_layT {l : Lay} {b n1 n2 nt : Nat} {x : Option Ref} (hl : l.tb.length = nt) (hx : OkO n1 n2 nt x) : hasV (layT l b) x = hasV l x := by
  cases x with
  | none => rfl
  | some r =>
    unfold hasV
    simp only [Option.map_some]
    rw [at_layT hl (hx r rfl)]
theorem ok_more {n1 n2 nt : Nat} {x : Option Ref} (hx : OkO n1 n2 nt x) : OkO n1 n2 (nt + 1) x := fun r hr => by
  have := hx r hr
  cases r using ref_cases with
  | var i => exact this
  | fn i => exact this
  | thing i => exact Nat.lt_succ_of_lt this
theorem get_addT {s : StD} {k : Int} {n1 n2 : Nat} {r : Ref} (hr : r.ok n1 n2 s.things.length) : (addT s k).get r = s.get r := by
  cases r using ref_cases with
  | var i => rfl
  | fn i => rfl
  | thing i => exact getD_snoc_left s.things none none i hr
/-- A thing more. -/
theorem Mach.addThing {w : World} {B Bt mb n1 n2 : Nat} {s : StD} {l : Lay} {v1 v2 v3 xv xf xt xp : Value} (h : Mach w B Bt mb n1 n2 s l v1 v2 v3 xv xf xt xp) (k : Int) (hl : s.things.length ≤ 1000000) (c : Obj) (hc : c = .cells #[.string ⟨#[116, 104, 105, 110, 103]⟩, .int .i64 (s.things.length : Int), .pointer none] 92) :
    ∃ v' w2, (Builtin.append_ #[86, 86] 86 #[xt, .slice (some ⟨w.heap.size + 1, 0, none⟩) 1 1]).run Tryd.prog ((w.alloc c).alloc (.cells #[ptrV w.heap.size] 90)) = .ok v' w2 ∧ w2.cell? ⟨mb, 5, none⟩ = some xt ∧ w2.frozen? ⟨mb, 5, none⟩ = false ∧ (∃ a n c, v' = .slice a n c) ∧
      ∃ v2' w3, (Builtin.append_ #[27, 27] 27 #[xp, .slice (some ⟨(w2.setCell ⟨mb, 5, none⟩ v').heap.size, 0, none⟩) 1 1]).run Tryd.prog ((w2.setCell ⟨mb, 5, none⟩ v').alloc (.cells #[.int .i64 k] 3)) = .ok v2' w3 ∧ (w2.setCell ⟨mb, 5, none⟩ v').cell? ⟨mb, 6, none⟩ = some xp ∧ w3.cell? ⟨mb, 6, none⟩ = some xp ∧ w3.frozen? ⟨mb, 6, none⟩ = false ∧ (∃ a n c, v2' = .slice a n c) ∧
        Mach (w3.setCell ⟨mb, 6, none⟩ v2') B Bt mb n1 n2 (addT s k) (layT l w.heap.size) v1 v2 v3 xv xf v' v2' ∧ Below B w (w3.setCell ⟨mb, 6, none⟩ v2') := by
  subst hc
  obtain ⟨w1, hw1⟩ : ∃ w1, w1 = w.alloc (.cells #[.string ⟨#[116, 104, 105, 110, 103]⟩, .int .i64 (s.things.length : Int), .pointer none] 92) := ⟨_, rfl⟩
  have hsz1 : w1.heap.size = w.heap.size + 1 := by rw [hw1]; simp
  have hb1 : Below w.heap.size w w1 := by rw [hw1]; exact below1 w _
  have m1 := h.below hb1
  have hnew : w1.heap[w.heap.size]? = some (.cells #[.string ⟨#[116, 104, 105, 110, 103]⟩, .int .i64 (s.things.length : Int), .pointer none] 92 (0, 0)) := by rw [hw1]; exact heap_new w _
  obtain ⟨v', w2, hr, ho, hb2, hk2⟩ := append_one w1 Bt xt s.things.length 1 8 86 90 (.pointer none) (l.tb.map ptrV) [ptrV w.heap.size] m1.rt m1.hBw Tryd.underlying86 Tryd.infoCellP (by decide) rfl rfl (fun x hx => by rw [List.mem_singleton.1 hx]; rfl) hl 86 (by decide)
  have hm2 : w2.heap[mb]? = some (.cells #[v1, v2, v3, xv, xf, xt, xp] 89 (0, 0)) := hk2 _ _ _ _ m1.blk (by decide)
  rw [hsz1, hw1] at hr
  have hset := kept_setCell (i := 5) hm2 v'
  obtain ⟨wm, hwm⟩ : ∃ wm, wm = w2.setCell ⟨mb, 5, none⟩ v' := ⟨_, rfl⟩
  rw [← hwm] at hset
  have hmm : wm.heap[mb]? = some (.cells #[v1, v2, v3, xv, xf, v', xp] 89 (0, 0)) := by rw [hwm, set_block _ _ _ _ _ _ hm2]; rfl
  have hszm : wm.heap.size = w2.heap.size := by rw [hwm]; simp
  have hb2' : Below B w1 wm := by rw [hwm]; exact (hb2.mono h.hBt).setCell h.low _
  have hpm : wm.ownsRow Bt 3 1 xp s.places.length (s.places.map intV) := owns_kept (owns_kept m1.rp hk2 (by decide)) hset (by decide)
  have htm : wm.ownsRow Bt 90 1 v' (s.things.length + 1) (l.tb.map ptrV ++ [ptrV w.heap.size]) := owns_kept ho hset (by decide)
  have hvm : wm.ownsRow B 90 1 xv n1 (l.vb.map ptrV) := owns_kept (owns_low m1.rv h.rvb hb2) hset (by decide)
  have hfm : wm.ownsRow B 90 1 xf n2 (l.fb.map ptrV) := owns_kept (owns_low m1.rf h.rfb hb2) hset (by decide)
  have hBm : Bt ≤ wm.heap.size := by rw [hszm]; exact Nat.le_trans m1.hBw hb2.size
  obtain ⟨v2', w3, hr3, ho3, hb3, hk3⟩ := append_one wm Bt xp s.places.length 1 8 27 3 (.int .i64 0) (s.places.map intV) [intV k] hpm hBm Tryd.underlying27 Tryd.infoInt (by decide) rfl rfl (fun x hx => by rw [List.mem_singleton.1 hx]; rfl) (by rw [h.lp]; exact hl) 27 (by decide)
  have hm3 : w3.heap[mb]? = some (.cells #[v1, v2, v3, xv, xf, v', xp] 89 (0, 0)) := hk3 _ _ _ _ hmm (by decide)
  have hset3 := kept_setCell (i := 6) hm3 v2'
  refine ⟨v', w2, hr, by rw [Lib.cell_of_heap hm2]; rfl, Lib.frozen_of_heap hm2 5, by obtain ⟨_, _, e⟩ := owns_form ho; exact ⟨_, _, _, e⟩, v2', w3, by rw [← hwm]; exact hr3, by rw [← hwm, Lib.cell_of_heap hmm]; rfl, by rw [Lib.cell_of_heap hm3]; rfl, Lib.frozen_of_heap hm3 6, by obtain ⟨_, _, e⟩ := owns_form ho3; exact ⟨_, _, _, e⟩, ?_, ?_⟩
  · have keepC : ∀ (b : Nat) cs, w1.heap[b]? = some (.cells cs 92 (0, 0)) → (w3.setCell ⟨mb, 6, none⟩ v2').heap[b]? = some (.cells cs 92 (0, 0)) := fun b cs hb =>
      hset3 _ _ _ _ (hk3 _ _ _ _ (hset _ _ _ _ (hk2 _ _ _ _ hb (by decide)) (by decide)) (by decide)) (by decide)
    have hlen : (addT s k).things.length = s.things.length + 1 := by simp [addT]
    refine ⟨h.low, h.hBt, ?_, by rw [set_block _ _ _ _ _ _ hm3]; rfl, ?_, ?_, h.rvb, h.rfb, ?_, ?_, h.lv, h.lf, ?_, ?_, h.ls, ?_, ?_, ?_⟩
    · simpa using Nat.le_trans hBm hb3.size
    · exact owns_kept (owns_low hvm h.rvb hb3) hset3 (by decide)
    · exact owns_kept (owns_low hfm h.rfb hb3) hset3 (by decide)
    · rw [hlen]
      have := owns_kept (owns_kept htm hk3 (by decide)) hset3 (by decide)
      simpa [layT] using this
    · have := owns_kept ho3 hset3 (by decide)
      simpa [addT] using this
    · rw [hlen]; simp [layT, h.lt]
    · simp [addT, h.lp]
    · intro r hr'
      rw [hlen] at hr'
      by_cases ho' : r.ok n1 n2 s.things.length
      · obtain ⟨q1, q2⟩ := h.cells r ho'
        unfold CellAt
        rw [at_layT h.lt ho', get_addT ho', has_layT h.lt (h.get_ok r)]
        exact ⟨q1, keepC _ _ (block_keep hb1 q2)⟩
      · cases r using ref_cases with
        | var i => exact absurd hr' ho'
        | fn i => exact absurd hr' ho'
        | thing i =>
          have hi : i = s.things.length := by
            have h1 : i < s.things.length + 1 := hr'
            have h2 : ¬ i < s.things.length := ho'
            omega
          subst hi
          have ha : (layT l w.heap.size).at (.thing s.things.length) = w.heap.size := getD_snoc_last l.tb w.heap.size 0 _ h.lt.symm
          have hg : (addT s k).get (.thing s.things.length) = none := getD_snoc_last s.things none none _ rfl
          unfold CellAt
          rw [ha, hg]
          exact ⟨h.size, keepC _ _ hnew⟩
    · rw [hlen]
      exact fun r hr => ok_more (h.okv r hr)
    · rw [hlen]
      intro r hr
      rcases List.mem_append.1 hr with q | q
      · exact ok_more (h.okt r q)
      · rw [List.mem_singleton.1 q]
        intro x hx; cases hx
  · exact ((hb1.mono h.size).trans hb2').trans ((hb3.mono h.hBt).setCell h.low _)
end Go.Proofs.YtdbcjeccmjpbiabDoor

/-
  Package run: Do, by a contract.
-/
import Derived.Test.YteekjigaicmohaaGreatDoorRIM
import Derived.Test.YteekjigaicmohaaGreatDoorRJM
import Derived.Test.YteekjigaicmohaaGreatDoorPJM
import Derived.Test.YteekjigaicmohaaGreatDoorPZ8M
namespace Go.Proofs.YteekjigaicmohaaGreatDoor
open Go.RowKit Go.Extern.Stop Go.Stop Go.Extern

def doD (P : ProgD) (zs : List Int) : StD := zs.foldl (fun s z => stepD P s z.toNat) (st0 P.vars.length)
def runE (P : ProgD) (zs : List Int) : ErrD := match checkE P with
  | some e => some e
  | none => doneE P.stmts.length zs
theorem doD_snoc (P : ProgD) (zs : List Int) (k : Nat) (h : k < zs.length) : doD P (zs.take (k + 1)) = stepD P (doD P (zs.take k)) (zs.getD k 0).toNat := by
  unfold doD
  rw [take_snoc zs 0 k h, List.foldl_append]
  rfl
theorem scriptE_none (n : Nat) (zs : List Int) (b : Nat) (h : scriptE n b zs = none) : ∀ j, j < zs.length → 0 ≤ zs.getD j 0 ∧ zs.getD j 0 < (n : Int) := by
  induction zs generalizing b with
  | nil => intro j hj; simp at hj
  | cons z r ih =>
    unfold scriptE at h
    split at h
    · rename_i g
      intro j hj
      cases j with
      | zero => simpa [List.getD] using g
      | succ j => simpa [List.getD] using ih (b + 1) h j (by simpa using hj)
    · cases h
theorem doneE_none {n : Nat} {zs : List Int} (h : doneE n zs = none) : zs.length ≤ 2000 ∧ ∀ j, j < zs.length → 0 ≤ zs.getD j 0 ∧ zs.getD j 0 < (n : Int) := by
  unfold doneE at h
  split at h
  · cases h
  · exact ⟨by omega, scriptE_none n zs 0 h⟩
theorem call_things (fs : List FunD) (s : StD) (x : Nat) (args : List Int) (c : Option Ref) : (callD fs s x args c).things.length = s.things.length := by
  rcases c with _ | i | i | i
  · rfl
  · rfl
  · rfl
  · show (enterD (fs.getD i default) s x args).things.length = _
    unfold enterD
    split
    · rw [put_things, putN_things]
    · rfl
theorem call_places (fs : List FunD) (s : StD) (x : Nat) (args : List Int) (c : Option Ref) : (callD fs s x args c).places = s.places := by
  rcases c with _ | i | i | i
  · rfl
  · rfl
  · rfl
  · show (enterD (fs.getD i default) s x args).places = _
    unfold enterD
    split
    · rw [put_places, putN_places]
    · rfl
theorem load_same (s : StD) (x : Nat) (o : Option Ref) : (loadD s x o).things.length = s.things.length ∧ (loadD s x o).places = s.places := by
  cases o with
  | none => exact ⟨rfl, rfl⟩
  | some r =>
    by_cases hf : r.isFn = true
    · simp [loadD, hf]
    · have : loadD s x (some r) = s.put (.var x) (s.get r) := by simp [loadD, hf]
      rw [this]
      exact ⟨put_things, put_places⟩
theorem store_same (s : StD) (x o : Option Ref) : (storeD s x o).things.length = s.things.length ∧ (storeD s x o).places = s.places := by
  cases o with
  | none => exact ⟨rfl, rfl⟩
  | some r =>
    by_cases hf : r.isFn = true
    · simp [storeD, hf]
    · have : storeD s x (some r) = s.put r x := by simp [storeD, hf]
      rw [this]
      exact ⟨put_things, put_places⟩
/-- A thing more where the statement is new, else none. -/
theorem step_places (P : ProgD) (s : StD) (k : Nat) : (stepD P s k).places = s.places ++ (if (P.stmts.getD k default).kind = kNew then [(k : Int)] else []) ∧ (stepD P s k).things.length = s.things.length + (if (P.stmts.getD k default).kind = kNew then 1 else 0) := by
  unfold stepD doStmt
  obtain ⟨st, hst⟩ : ∃ st, st = P.stmts.getD k default := ⟨_, rfl⟩
  rw [← hst]
  by_cases e1 : st.kind = kAddr
  · rw [if_pos e1, if_neg (by rw [e1]; decide), if_neg (by rw [e1]; decide), put_things, put_places]; simp
  rw [if_neg e1]
  by_cases e2 : st.kind = kCopy
  · rw [if_pos e2, if_neg (by rw [e2]; decide), if_neg (by rw [e2]; decide), put_things, put_places]; simp
  rw [if_neg e2]
  by_cases e3 : st.kind = kLoad
  · rw [if_pos e3, if_neg (by rw [e3]; decide), if_neg (by rw [e3]; decide), (load_same _ _ _).1, (load_same _ _ _).2]; simp
  rw [if_neg e3]
  by_cases e4 : st.kind = kStore
  · rw [if_pos e4, if_neg (by rw [e4]; decide), if_neg (by rw [e4]; decide), (store_same _ _ _).1, (store_same _ _ _).2]; simp
  rw [if_neg e4]
  by_cases e5 : st.kind = kNew
  · rw [if_pos e5, if_pos e5, if_pos e5, put_things, put_places]; simp [addT]
  rw [if_neg e5, if_neg e5, if_neg e5]
  by_cases e6 : st.kind = kFun
  · rw [if_pos e6, put_things, put_places]; simp
  rw [if_neg e6, call_things, call_places]; simp
theorem do_things (P : ProgD) (zs : List Int) (k : Nat) (h : k ≤ zs.length) : (doD P (zs.take k)).things.length ≤ k := by
  induction k with
  | zero => simp [doD, st0]
  | succ k ih =>
    rw [doD_snoc P zs k (by omega), (step_places P _ _).2]
    have := ih (by omega)
    split <;> omega

theorem cell_set_id {w : World} {p : Addr} {v : Value} (h : w.cell? p = some v) (q : Addr) : (w.setCell p v).cell? q = w.cell? q := by
  by_cases e : p = q
  · subst e; rw [h]; exact World.cell?_setCell_same _ _ _ h
  · exact World.cell?_setCell_other _ _ _ _ e
theorem ErrV.cells {w w' : World} {a : Nat → Addr} {e : ErrD} {v : Value} (h : ErrV w a e v) (hb : ∀ q, w'.cell? q = w.cell? q) : ErrV w' a e v := by
  rcases h with h | h | ⟨i, n, b, o, h1, h2, h3, h4, h5⟩
  · exact Or.inl h
  · exact Or.inr (Or.inl h)
  · exact Or.inr (Or.inr ⟨i, n, b, o, h1, h2, h3, by rw [hb]; exact h4, by rw [hb]; exact h5⟩)
theorem IsCap.set {w : World} {ya : Option Addr} {n c b i : Nat} {x : Value} {zs : List Int} (h : IsCap w (.slice ya n c) zs) (hne : ∀ g o, ya = some ⟨g, o, none⟩ → g ≠ b) : IsCap (w.setCell ⟨b, i, none⟩ x) (.slice ya n c) zs := by
  refine ⟨?_, h.2⟩
  rcases h.1 with ⟨e, a, c', e2⟩ | ⟨e, g, o, c', e2, q⟩
  · exact Or.inl ⟨e, a, c', e2⟩
  · cases e2
    exact Or.inr ⟨e, g, o, _, rfl, fun j hj => other_cell (q j hj) (hne g o rfl)⟩
def LowO (B : Nat) (a : Option Addr) : Prop := ∀ g o, a = some ⟨g, o, none⟩ → B ≤ g
/-- Zeros over zeros. -/
theorem zero_over {w : World} {r : Nat} {T : TypeId} (h : w.heap[r]? = some (.cells #[.slice none 0 0, .slice none 0 0, .slice none 0 0] T (0, 0))) (q : Addr) : (((w.setCell ⟨r, 0, none⟩ (.slice none 0 0)).setCell ⟨r, 1, none⟩ (.slice none 0 0)).setCell ⟨r, 2, none⟩ (.slice none 0 0)).cell? q = w.cell? q := by
  have e0 : w.cell? ⟨r, 0, none⟩ = some (.slice none 0 0) := by rw [Lib.cell_of_heap h]; rfl
  have e1 : w.cell? ⟨r, 1, none⟩ = some (.slice none 0 0) := by rw [Lib.cell_of_heap h]; rfl
  have e2 : w.cell? ⟨r, 2, none⟩ = some (.slice none 0 0) := by rw [Lib.cell_of_heap h]; rfl
  have i0 := cell_set_id e0
  have i1 := cell_set_id (w := w.setCell ⟨r, 0, none⟩ (.slice none 0 0)) (p := ⟨r, 1, none⟩) (v := .slice none 0 0) (by rw [i0]; exact e1)
  have i2 := cell_set_id (w := (w.setCell ⟨r, 0, none⟩ (.slice none 0 0)).setCell ⟨r, 1, none⟩ (.slice none 0 0)) (p := ⟨r, 2, none⟩) (v := .slice none 0 0) (by rw [i1, i0]; exact e2)
  rw [i2, i1, i0]

set_option maxRecDepth 100000 in
set_option maxHeartbeats 8000000 in
theorem do_bad1 (a : Nat → Addr) (P : ProgD) (v1 v2 v3 v : Value) (w : World) (hs : SmallP P) (h : IsProg w v1 v2 v3 P) (hE : Errs5 w a) (hc : (checkE P).isNone = false) :
    Calls Tryz.prog 37 #[.agg #[v1, v2, v3], v] w fun e w' => ∃ ev, e = .returned (.tuple #[.agg #[.slice none 0 0, .slice none 0 0, .slice none 0 0], ev]) ∧ ErrV w' a (checkE P) ev ∧ Below w.heap.size w w' := by
  have HP : Hid (IsProg w v1 v2 v3 P) := h
  have HE : Hid (Errs5 w a) := hE
  have HS : Hid (SmallP P) := hs
  obtain ⟨⟨p1, d1, rfl, -, -⟩, ⟨p2, d2, rfl, -, -⟩, ⟨p3, d3, rfl, -, -⟩⟩ := h
  obtain ⟨n1, hn1⟩ : ∃ m, m = P.vars.length := ⟨_, rfl⟩
  obtain ⟨n2, hn2⟩ : ∃ m, m = P.funs.length := ⟨_, rfl⟩
  obtain ⟨n3, hn3⟩ : ∃ m, m = P.stmts.length := ⟨_, rfl⟩
  have HN : Hid (n1 = P.vars.length ∧ n2 = P.funs.length ∧ n3 = P.stmts.length) := ⟨hn1, hn2, hn3⟩
  rw [← hn1, ← hn2, ← hn3] at HP ⊢
  obtain ⟨W, hW⟩ : ∃ W, W = (w.alloc (.cells #[.slice p1 n1 d1, .slice p2 n2 d2, .slice p3 n3 d3] 26)).alloc (.cells #[.slice none 0 0, .slice none 0 0, .slice none 0 0] 75) := ⟨_, rfl⟩
  have hBW : Below w.heap.size w W := by rw [hW]; exact (below1 w _).alloc (by simp) _
  have hWz : W.heap.size = w.heap.size + 2 := by rw [hW]; simp
  have KC : Hid (Calls Tryz.prog 18 #[.agg #[.slice p1 n1 d1, .slice p2 n2 d2, .slice p3 n3 d3]] W fun e w' => ∃ t x, e = .returned (.iface t (.pointer (some x))) ∧ ErrV w' a (checkE P) (.iface t (.pointer (some x))) ∧ Below W.heap.size W w') := by
    refine (check_any a P _ _ _ W hs (HP.out.below hBW) (hE.below hBW)).mono ?_
    rintro e w' ⟨v', rfl, hv, hb⟩
    rcases hv.cases with ⟨q, _⟩ | ⟨_, t, x, rfl⟩
    · rw [hc] at q; cases q
    · exact ⟨t, x, rfl, hv, hb⟩
  have hbox : W.heap[w.heap.size]? = some (.cells #[.slice p1 n1 d1, .slice p2 n2 d2, .slice p3 n3 d3] 26 (0, 0)) := by rw [hW]; exact block_keep (below1 _ _) (heap_new w _)
  have hrb : W.heap[w.heap.size + 1]? = some (.cells #[.slice none 0 0, .slice none 0 0, .slice none 0 0] 75 (0, 0)) := by
    have := heap_new (w.alloc (.cells #[.slice p1 n1 d1, .slice p2 n2 d2, .slice p3 n3 d3] 26)) (.cells #[.slice none 0 0, .slice none 0 0, .slice none 0 0] 75)
    rw [hW]; simpa using this
  have b0 : W.cell? ⟨w.heap.size, 0, none⟩ = some (.slice p1 n1 d1) := by rw [Lib.cell_of_heap hbox]; rfl
  have b1 : W.cell? ⟨w.heap.size, 1, none⟩ = some (.slice p2 n2 d2) := by rw [Lib.cell_of_heap hbox]; rfl
  have b2 : W.cell? ⟨w.heap.size, 2, none⟩ = some (.slice p3 n3 d3) := by rw [Lib.cell_of_heap hbox]; rfl
  have HRB : Hid (W.heap[w.heap.size + 1]? = some (.cells #[.slice none 0 0, .slice none 0 0, .slice none 0 0] 75 (0, 0))) := hrb
  clear hbox hrb hc hn1 hn2 hn3 hs hE
  go_enter Tryz.func37, Tryz.ntmps37
  go_upto_region 1 with fail
  rw [← hW]
  clear hW
  go_wp2_with (go_at_call 18; refine KC.out.mono ?_; rintro e w3 ⟨t, x, rfl, hv3, hb3⟩; have HV : Hid (ErrV w3 a (checkE P) (.iface t (.pointer (some x)))) := hv3; clear hv3; have hr3 := block_keep hb3 HRB.out; have f0 := frozen_of_block hr3 0; have f1 := frozen_of_block hr3 1; have f2 := frozen_of_block hr3 2; have g0 : w3.cell? ⟨w.heap.size + 1, 0, none⟩ = some (.slice none 0 0) := (by rw [Lib.cell_of_heap hr3]; rfl); have g1 : w3.cell? ⟨w.heap.size + 1, 1, none⟩ = some (.slice none 0 0) := (by rw [Lib.cell_of_heap hr3]; rfl); have g2 : w3.cell? ⟨w.heap.size + 1, 2, none⟩ = some (.slice none 0 0) := (by rw [Lib.cell_of_heap hr3]; rfl); have HR3 : Hid (w3.heap[w.heap.size + 1]? = some (.cells #[.slice none 0 0, .slice none 0 0, .slice none 0 0] 75 (0, 0))) := hr3; clear hr3)
  obtain ⟨W7, hW7⟩ : ∃ W7, W7 = (((w3.setCell ⟨w.heap.size + 1, 0, none⟩ (.slice none 0 0)).setCell ⟨w.heap.size + 1, 1, none⟩ (.slice none 0 0)).setCell ⟨w.heap.size + 1, 2, none⟩ (.slice none 0 0)) := ⟨_, rfl⟩
  obtain ⟨r0, r1, r2⟩ := res_cells HR3.out (.slice none 0 0) (.slice none 0 0) (.slice none 0 0)
  have hid := zero_over HR3.out
  have HB7 : Hid (Below w.heap.size w W7) := by
    show Below _ _ _
    rw [hW7]
    exact below_set (below_set (below_set (hBW.trans (hb3.mono hBW.size)) (Nat.le_succ _)) (Nat.le_succ _)) (Nat.le_succ _)
  rw [← hW7] at r0 r1 r2 hid ⊢
  have HV7 : Hid (ErrV W7 a (checkE P) (.iface t (.pointer (some x)))) := HV.out.cells hid
  clear hW7 hid
  refine bodyPost_ret (v := .tuple #[.agg #[.slice none 0 0, .slice none 0 0, .slice none 0 0], .iface t (.pointer (some x))]) (by simp [results, Tryz.results37, go_sem, r0, r1, r2]) rfl ?_
  exact ⟨_, rfl, HV7.out, HB7.out⟩

set_option maxRecDepth 100000 in
set_option maxHeartbeats 8000000 in
theorem do_bad2 (a : Nat → Addr) (P : ProgD) (v1 v2 v3 v : Value) (zs : List Int) (w : World) (hs : SmallP P) (h : IsProg w v1 v2 v3 P) (hE : Errs5 w a) (hz : IsInts w v zs) (hm : zs.length ≤ 1000000) (hc : checkE P = none) (hd : (doneE P.stmts.length zs).isNone = false) :
    Calls Tryz.prog 37 #[.agg #[v1, v2, v3], v] w fun e w' => ∃ ev, e = .returned (.tuple #[.agg #[.slice none 0 0, .slice none 0 0, .slice none 0 0], ev]) ∧ ErrV w' a (doneE P.stmts.length zs) ev ∧ Below w.heap.size w w' := by
  have HP : Hid (IsProg w v1 v2 v3 P) := h
  have HE : Hid (Errs5 w a) := hE
  have HS : Hid (SmallP P) := hs
  obtain ⟨⟨p1, d1, rfl, -, -⟩, ⟨p2, d2, rfl, -, -⟩, ⟨p3, d3, rfl, -, -⟩⟩ := h
  obtain ⟨n1, hn1⟩ : ∃ m, m = P.vars.length := ⟨_, rfl⟩
  obtain ⟨n2, hn2⟩ : ∃ m, m = P.funs.length := ⟨_, rfl⟩
  obtain ⟨n3, hn3⟩ : ∃ m, m = P.stmts.length := ⟨_, rfl⟩
  have HN : Hid (n1 = P.vars.length ∧ n2 = P.funs.length ∧ n3 = P.stmts.length) := ⟨hn1, hn2, hn3⟩
  rw [← hn1, ← hn2, ← hn3] at HP ⊢
  obtain ⟨W, hW⟩ : ∃ W, W = (w.alloc (.cells #[.slice p1 n1 d1, .slice p2 n2 d2, .slice p3 n3 d3] 26)).alloc (.cells #[.slice none 0 0, .slice none 0 0, .slice none 0 0] 75) := ⟨_, rfl⟩
  have hBW : Below w.heap.size w W := by rw [hW]; exact (below1 w _).alloc (by simp) _
  have hWz : W.heap.size = w.heap.size + 2 := by rw [hW]; simp
  have KC : Hid (Calls Tryz.prog 18 #[.agg #[.slice p1 n1 d1, .slice p2 n2 d2, .slice p3 n3 d3]] W fun e w' => e = .returned .nilIface ∧ Below W.heap.size W w') := by
    refine (check_any a P _ _ _ W hs (HP.out.below hBW) (hE.below hBW)).mono ?_
    rintro e w' ⟨v', rfl, hv, hb⟩
    rcases hv.cases with ⟨_, rfl⟩ | ⟨q, _⟩
    · exact ⟨rfl, hb⟩
    · rw [hc] at q; cases q
  obtain ⟨za, zc, rfl⟩ := isInts_form hz
  have HZ : Hid (IsInts w (.slice za zs.length zc) zs) := hz
  obtain ⟨m, hmm⟩ : ∃ m, m = zs.length := ⟨_, rfl⟩
  have HM : Hid (m = zs.length) := hmm
  rw [← hmm] at hm HZ ⊢
  clear hmm hz
  obtain ⟨E, hEE⟩ : ∃ E, E = doneE P.stmts.length zs := ⟨_, rfl⟩
  rw [HN.out.2.2, ← hEE]
  have KS : Hid (∀ wx, Below W.heap.size W wx → Calls Tryz.prog 78 #[.slice za m zc, .int .i64 (n3 : Int)] wx fun e w' => ∃ t x, e = .returned (.iface t (.pointer (some x))) ∧ ErrV w' a E (.iface t (.pointer (some x))) ∧ Below wx.heap.size wx w') := by
    intro wx hwx
    have hb := hBW.trans (hwx.mono hBW.size)
    refine (checkScript_any a n3 zs _ wx (hE.below hb) (by rw [← HM.out]; exact hm) (HZ.out.below hb)).mono ?_
    rintro e w' ⟨v', rfl, hv, hb⟩
    rw [HN.out.2.2, ← hEE] at hv
    rcases hv.cases with ⟨q, _⟩ | ⟨_, t, x, rfl⟩
    · rw [hEE, hd] at q; cases q
    · exact ⟨t, x, rfl, hv, hb⟩
  rw [← HN.out.2.2]
  clear hd hEE
  have hbox : W.heap[w.heap.size]? = some (.cells #[.slice p1 n1 d1, .slice p2 n2 d2, .slice p3 n3 d3] 26 (0, 0)) := by rw [hW]; exact block_keep (below1 _ _) (heap_new w _)
  have hrb : W.heap[w.heap.size + 1]? = some (.cells #[.slice none 0 0, .slice none 0 0, .slice none 0 0] 75 (0, 0)) := by
    have := heap_new (w.alloc (.cells #[.slice p1 n1 d1, .slice p2 n2 d2, .slice p3 n3 d3] 26)) (.cells #[.slice none 0 0, .slice none 0 0, .slice none 0 0] 75)
    rw [hW]; simpa using this
  have b0 : W.cell? ⟨w.heap.size, 0, none⟩ = some (.slice p1 n1 d1) := by rw [Lib.cell_of_heap hbox]; rfl
  have b1 : W.cell? ⟨w.heap.size, 1, none⟩ = some (.slice p2 n2 d2) := by rw [Lib.cell_of_heap hbox]; rfl
  have b2 : W.cell? ⟨w.heap.size, 2, none⟩ = some (.slice p3 n3 d3) := by rw [Lib.cell_of_heap hbox]; rfl
  have HRB : Hid (W.heap[w.heap.size + 1]? = some (.cells #[.slice none 0 0, .slice none 0 0, .slice none 0 0] 75 (0, 0))) := hrb
  clear hbox hrb hc hn1 hn2 hn3 hs hE
  go_enter Tryz.func37, Tryz.ntmps37
  go_upto_region 1 with fail
  rw [← hW]
  clear hW
  go_wp2_with (first | (go_at_call 18; refine KC.out.mono ?_; rintro e w2 ⟨rfl, hb2⟩; replace b2 := cell_keep hb2 b2) | (go_at_call 78; refine (KS.out _ hb2).mono ?_; rintro e w3 ⟨t, x, rfl, hv3, hb3'⟩; have hb3 := hb2.trans (hb3'.mono hb2.size); have HV : Hid (ErrV w3 a E (.iface t (.pointer (some x)))) := hv3; clear hv3 hb3'; have hr3 := block_keep hb3 HRB.out; have f0 := frozen_of_block hr3 0; have f1 := frozen_of_block hr3 1; have f2 := frozen_of_block hr3 2; have g0 : w3.cell? ⟨w.heap.size + 1, 0, none⟩ = some (.slice none 0 0) := (by rw [Lib.cell_of_heap hr3]; rfl); have g1 : w3.cell? ⟨w.heap.size + 1, 1, none⟩ = some (.slice none 0 0) := (by rw [Lib.cell_of_heap hr3]; rfl); have g2 : w3.cell? ⟨w.heap.size + 1, 2, none⟩ = some (.slice none 0 0) := (by rw [Lib.cell_of_heap hr3]; rfl); have HR3 : Hid (w3.heap[w.heap.size + 1]? = some (.cells #[.slice none 0 0, .slice none 0 0, .slice none 0 0] 75 (0, 0))) := hr3; clear hr3))
  obtain ⟨W7, hW7⟩ : ∃ W7, W7 = (((w3.setCell ⟨w.heap.size + 1, 0, none⟩ (.slice none 0 0)).setCell ⟨w.heap.size + 1, 1, none⟩ (.slice none 0 0)).setCell ⟨w.heap.size + 1, 2, none⟩ (.slice none 0 0)) := ⟨_, rfl⟩
  obtain ⟨r0, r1, r2⟩ := res_cells HR3.out (.slice none 0 0) (.slice none 0 0) (.slice none 0 0)
  have hid := zero_over HR3.out
  have HB7 : Hid (Below w.heap.size w W7) := by
    show Below _ _ _
    rw [hW7]
    exact below_set (below_set (below_set (hBW.trans (hb3.mono hBW.size)) (Nat.le_succ _)) (Nat.le_succ _)) (Nat.le_succ _)
  rw [← hW7] at r0 r1 r2 hid ⊢
  have HV7 : Hid (ErrV W7 a (E) (.iface t (.pointer (some x)))) := HV.out.cells hid
  clear hW7 hid
  refine bodyPost_ret (v := .tuple #[.agg #[.slice none 0 0, .slice none 0 0, .slice none 0 0], .iface t (.pointer (some x))]) (by simp [results, Tryz.results37, go_sem, r0, r1, r2]) rfl ?_
  exact ⟨_, rfl, HV7.out, HB7.out⟩

set_option maxRecDepth 100000 in
set_option maxHeartbeats 8000000 in
theorem do_ok (a : Nat → Addr) (P : ProgD) (v1 v2 v3 v : Value) (zs : List Int) (w : World) (hs : SmallP P) (h : IsProg w v1 v2 v3 P) (hE : Errs5 w a) (hz : IsInts w v zs) (hm : zs.length ≤ 1000000) (hc : checkE P = none) (hd : doneE P.stmts.length zs = none) :
    Calls Tryz.prog 37 #[.agg #[v1, v2, v3], v] w fun e w' => ∃ a1 m1 c1 a2 m2 c2 a3 m3 c3, e = .returned (.tuple #[.agg #[.slice a1 m1 c1, .slice a2 m2 c2, .slice a3 m3 c3], .nilIface]) ∧ IsVals w' (.slice a1 m1 c1) (doD P zs).vars ∧ IsVals w' (.slice a2 m2 c2) (doD P zs).things ∧ IsCap w' (.slice a3 m3 c3) (doD P zs).places ∧ LowO w.heap.size a1 ∧ LowO w.heap.size a2 ∧ LowO w.heap.size a3 ∧ Below w.heap.size w w' := by
  have HP : Hid (IsProg w v1 v2 v3 P) := h
  have HE : Hid (Errs5 w a) := hE
  have HS : Hid (SmallP P) := hs
  obtain ⟨⟨p1, d1, rfl, -, -⟩, ⟨p2, d2, rfl, -, -⟩, ⟨p3, d3, rfl, -, -⟩⟩ := h
  obtain ⟨n1, hn1⟩ : ∃ m, m = P.vars.length := ⟨_, rfl⟩
  obtain ⟨n2, hn2⟩ : ∃ m, m = P.funs.length := ⟨_, rfl⟩
  obtain ⟨n3, hn3⟩ : ∃ m, m = P.stmts.length := ⟨_, rfl⟩
  have HN : Hid (n1 = P.vars.length ∧ n2 = P.funs.length ∧ n3 = P.stmts.length) := ⟨hn1, hn2, hn3⟩
  rw [← hn1, ← hn2, ← hn3] at HP ⊢
  obtain ⟨W, hW⟩ : ∃ W, W = (w.alloc (.cells #[.slice p1 n1 d1, .slice p2 n2 d2, .slice p3 n3 d3] 26)).alloc (.cells #[.slice none 0 0, .slice none 0 0, .slice none 0 0] 75) := ⟨_, rfl⟩
  have hBW : Below w.heap.size w W := by rw [hW]; exact (below1 w _).alloc (by simp) _
  have hWz : W.heap.size = w.heap.size + 2 := by rw [hW]; simp
  have KC : Hid (Calls Tryz.prog 18 #[.agg #[.slice p1 n1 d1, .slice p2 n2 d2, .slice p3 n3 d3]] W fun e w' => e = .returned .nilIface ∧ Below W.heap.size W w') := by
    refine (check_any a P _ _ _ W hs (HP.out.below hBW) (hE.below hBW)).mono ?_
    rintro e w' ⟨v', rfl, hv, hb⟩
    rcases hv.cases with ⟨_, rfl⟩ | ⟨q, _⟩
    · exact ⟨rfl, hb⟩
    · rw [hc] at q; cases q
  obtain ⟨za, zc, rfl⟩ := isInts_form hz
  have HZ : Hid (IsInts w (.slice za zs.length zc) zs) := hz
  obtain ⟨m, hmm⟩ : ∃ m, m = zs.length := ⟨_, rfl⟩
  have HM : Hid (m = zs.length) := hmm
  rw [← hmm] at hm HZ ⊢
  clear hmm hz
  obtain ⟨hm2, hin⟩ := doneE_none hd
  have HIN : Hid (∀ j, j < m → 0 ≤ zs.getD j 0 ∧ zs.getD j 0 < (n3 : Int)) := fun j hj => by rw [HN.out.2.2]; exact hin j (by rw [← HM.out]; exact hj)
  have HRT : Hid (Right P) := right_of hc
  have KS : Hid (∀ wx, Below W.heap.size W wx → Calls Tryz.prog 78 #[.slice za m zc, .int .i64 (n3 : Int)] wx fun e w' => e = .returned .nilIface ∧ Below wx.heap.size wx w') := by
    intro wx hwx
    have hb := hBW.trans (hwx.mono hBW.size)
    refine (checkScript_any a n3 zs _ wx (hE.below hb) (by rw [← HM.out]; exact hm) (HZ.out.below hb)).mono ?_
    rintro e w' ⟨v', rfl, hv, hb⟩
    rw [HN.out.2.2, hd] at hv
    rcases hv.cases with ⟨_, rfl⟩ | ⟨q, _⟩
    · exact ⟨rfl, hb⟩
    · cases q
  have KN : Hid (∀ wx, Below W.heap.size W wx → Calls Tryz.prog 79 #[.agg #[.slice p1 n1 d1, .slice p2 n2 d2, .slice p3 n3 d3]] wx fun e w' => ∃ mb Bt l xv xf, e = .returned (.pointer (some ⟨mb, 0, none⟩)) ∧ Mach w' wx.heap.size Bt mb n1 n2 (st0 n1) l (.slice p1 n1 d1) (.slice p2 n2 d2) (.slice p3 n3 d3) xv xf (.slice none 0 0) (.slice none 0 0) ∧ Below wx.heap.size wx w') := by
    intro wx hwx
    have hb := hBW.trans (hwx.mono hBW.size)
    have := newMachine_any P _ _ _ wx hs (HP.out.below hb)
    rw [← HN.out.1, ← HN.out.2.1] at this
    exact this
  have hm2' : m ≤ 2000 := by rw [HM.out]; exact hm2
  clear hd hin hm2
  have hbox : W.heap[w.heap.size]? = some (.cells #[.slice p1 n1 d1, .slice p2 n2 d2, .slice p3 n3 d3] 26 (0, 0)) := by rw [hW]; exact block_keep (below1 _ _) (heap_new w _)
  have hrb : W.heap[w.heap.size + 1]? = some (.cells #[.slice none 0 0, .slice none 0 0, .slice none 0 0] 75 (0, 0)) := by
    have := heap_new (w.alloc (.cells #[.slice p1 n1 d1, .slice p2 n2 d2, .slice p3 n3 d3] 26)) (.cells #[.slice none 0 0, .slice none 0 0, .slice none 0 0] 75)
    rw [hW]; simpa using this
  have b0 : W.cell? ⟨w.heap.size, 0, none⟩ = some (.slice p1 n1 d1) := by rw [Lib.cell_of_heap hbox]; rfl
  have b1 : W.cell? ⟨w.heap.size, 1, none⟩ = some (.slice p2 n2 d2) := by rw [Lib.cell_of_heap hbox]; rfl
  have b2 : W.cell? ⟨w.heap.size, 2, none⟩ = some (.slice p3 n3 d3) := by rw [Lib.cell_of_heap hbox]; rfl
  have HRB : Hid (W.heap[w.heap.size + 1]? = some (.cells #[.slice none 0 0, .slice none 0 0, .slice none 0 0] 75 (0, 0))) := hrb
  clear hbox hrb hc hn1 hn2 hn3 hs hE
  go_enter Tryz.func37, Tryz.ntmps37
  go_upto_region 1 with fail
  rw [← hW]
  clear hW
  go_wp2_with (first | (go_at_call 18; refine KC.out.mono ?_; rintro e w2 ⟨rfl, hb2⟩; have b0' := cell_keep hb2 b0; have b1' := cell_keep hb2 b1; have b2' := cell_keep hb2 b2) | (go_at_call 78; refine (KS.out _ hb2).mono ?_; rintro e w4 ⟨rfl, hb4'⟩; have hb4 := hb2.trans (hb4'.mono hb2.size); replace b0' := cell_keep hb4' b0'; replace b1' := cell_keep hb4' b1'; replace b2' := cell_keep hb4' b2'; clear hb4') | (go_at_call 79; refine (KN.out _ hb4).mono ?_; rintro e w5 ⟨mb, Bt, l, xv, xf, rfl, hM5, hb5⟩; have HM5 : Hid (Mach w5 w4.heap.size Bt mb n1 n2 (st0 n1) l (.slice p1 n1 d1) (.slice p2 n2 d2) (.slice p3 n3 d3) xv xf (.slice none 0 0) (.slice none 0 0)) := hM5; clear hM5))
  clear KC KS KN b0 b1 b2 b0' b1' b2'
  go_loopw [30] (fun t wr => ∃ k : Nat, k ≤ m ∧ t = .int .i64 k ∧ ∃ l' xt' xp', Mach wr w4.heap.size Bt mb n1 n2 (doD P (zs.take k)) l' (.slice p1 n1 d1) (.slice p2 n2 d2) (.slice p3 n3 d3) xv xf xt' xp' ∧ Below w4.heap.size w4 wr) (fun t _ => (m - intOf t).toNat)
  case atStart =>
    refine ⟨0, Nat.zero_le _, rfl, l, .slice none 0 0, .slice none 0 0, ?_, hb5⟩
    have := HM5.out
    rw [HN.out.1] at this
    rw [HN.out.1]
    exact this
  case round =>
    obtain ⟨k, hk, rfl, l', xt', xp', hM, hwr⟩ := hrel
    have hb04 : Below w.heap.size w w4 := hBW.trans (hb4.mono hBW.size)
    have hwr0 : Below w.heap.size w wr := hb04.trans (hwr.mono hb04.size)
    by_cases hlt : k < m
    · have hl : k < zs.length := by rw [← HM.out]; exact hlt
      obtain ⟨b, o, rfl, e0⟩ := isInts_at (HZ.out.below hwr0) k hl
      obtain ⟨i0, i1⟩ := HIN.out k hlt
      obtain ⟨j, hj⟩ : ∃ j, j = (zs.getD k 0).toNat := ⟨_, rfl⟩
      have hjz : zs.getD k 0 = (j : Int) := by omega
      have hjn : j < P.stmts.length := by rw [← HN.out.2.2]; omega
      rw [hjz] at e0
      have KT : Hid (Calls Tryz.prog 80 #[.pointer (some ⟨mb, 0, none⟩), .int .i64 (j : Int)] wr fun e w' => e = .returned (.tuple #[]) ∧ ∃ l' xt' xp', Mach w' w4.heap.size Bt mb n1 n2 (doD P (zs.take (k + 1))) l' (.slice p1 n1 d1) (.slice p2 n2 d2) (.slice p3 n3 d3) xv xf xt' xp' ∧ Below w4.heap.size wr w') := by
        have hth := do_things P zs k (by omega)
        rw [HN.out.1, HN.out.2.1] at hM
        have := step_any P hM hwr (by have := HP.out.below hb04; rw [HN.out.1, HN.out.2.1] at this; exact this) HRT.out HS.out j hjn (by omega)
        rw [← HN.out.1, ← HN.out.2.1] at this
        rw [doD_snoc P zs k hl, ← hj]
        exact this
      have hki : (k : Int) < m := by omega
      clear hM hl i0 i1 hj hjz hjn
      go_wp2_with (go_at_call 80; refine KT.out.mono ?_; rintro e w6 ⟨rfl, l6, xt6, xp6, hM6, hb6⟩; have HM6 : Hid (Mach w6 w4.heap.size Bt mb n1 n2 (doD P (zs.take (k + 1))) l6 (.slice p1 n1 d1) (.slice p2 n2 d2) (.slice p3 n3 d3) xv xf xt6 xp6) := hM6; clear hM6)
      go_roundw
      case rel => exact ⟨k + 1, hlt, by go_num, l6, xt6, xp6, HM6.out, hwr.trans hb6⟩
      case measure => simp [intOf]; omega
    · have hkm : k = m := by omega
      subst hkm
      have hfull : zs.take k = zs := by rw [HM.out]; exact List.take_length
      rw [hfull] at hM
      have hth := do_things P zs k (by rw [HM.out]; exact Nat.le_refl _)
      rw [hfull] at hth
      have hn1 : n1 ≤ 1000000 := by rw [HN.out.1]; have := HS.out.1; omega
      obtain ⟨hcap, ya, yc, rfl, hyc⟩ := isCap_of_owns hM.rp
      have KT : Hid (Calls Tryz.prog 81 #[.pointer (some ⟨mb, 0, none⟩)] wr fun e w' => ∃ g1 m1 c1 g2 m2 c2, e = .returned (.agg #[.slice (some ⟨g1, 0, none⟩) m1 c1, .slice (some ⟨g2, 0, none⟩) m2 c2, .slice ya (doD P zs).places.length yc]) ∧ IsVals w' (.slice (some ⟨g1, 0, none⟩) m1 c1) (doD P zs).vars ∧ IsVals w' (.slice (some ⟨g2, 0, none⟩) m2 c2) (doD P zs).things ∧ wr.heap.size ≤ g1 ∧ wr.heap.size ≤ g2 ∧ Below wr.heap.size wr w') := by
        refine (state_any hM hn1 (by omega)).mono ?_
        rintro e w' ⟨g1, g2, he, hv1, hv2, l1, l2, hb⟩
        exact ⟨g1, _, _, g2, _, _, he, hv1, hv2, l1, l2, hb⟩
      obtain ⟨np, hnp⟩ : ∃ n, n = (doD P zs).places.length := ⟨_, rfl⟩
      have HCP : Hid (IsCap wr (.slice ya np yc) (doD P zs).places) := by
        show IsCap _ _ _
        rw [hnp]
        exact ⟨hcap, ya, yc, rfl, hyc⟩
      rw [← hnp] at KT
      have HYB : Hid (∀ g o, ya = some ⟨g, o, none⟩ → w.heap.size + 2 ≤ g) := by
        intro g o hg
        subst hg
        have h4 := hb4.size
        rcases hM.rp.2 with ⟨q, _⟩ | ⟨g', cap, cur, q, hg', _⟩
        · cases q
        · cases q
          have := hM.hBt
          omega
      have HRW := HRB.out
      have hr4 := block_keep hb4 HRW
      clear hM hth hnp hcap hfull HIN
      go_wp2_with (go_at_call 81; refine KT.out.mono ?_; rintro e w6 ⟨y1, m1, c1, y2, m2, c2, rfl, hv1, hv2, hl1, hl2, hb6⟩; have hb46 := hwr.trans (hb6.mono hwr.size); have HV1 : Hid (IsVals w6 (.slice (some ⟨y1, 0, none⟩) m1 c1) (doD P zs).vars) := hv1; have HV2 : Hid (IsVals w6 (.slice (some ⟨y2, 0, none⟩) m2 c2) (doD P zs).things) := hv2; clear hv1 hv2; have hr3 := block_keep (hb4.trans (hb46.mono hb4.size)) HRB.out; have f0 := frozen_of_block hr3 0; have f1 := frozen_of_block hr3 1; have f2 := frozen_of_block hr3 2; have g0 : w6.cell? ⟨w.heap.size + 1, 0, none⟩ = some (.slice none 0 0) := (by rw [Lib.cell_of_heap hr3]; rfl); have g1 : w6.cell? ⟨w.heap.size + 1, 1, none⟩ = some (.slice none 0 0) := (by rw [Lib.cell_of_heap hr3]; rfl); have g2 : w6.cell? ⟨w.heap.size + 1, 2, none⟩ = some (.slice none 0 0) := (by rw [Lib.cell_of_heap hr3]; rfl); have HR3 : Hid (w6.heap[w.heap.size + 1]? = some (.cells #[.slice none 0 0, .slice none 0 0, .slice none 0 0] 75 (0, 0))) := hr3; clear hr3)
      obtain ⟨W7, hW7⟩ : ∃ W7, W7 = ((w6.setCell ⟨w.heap.size + 1, 0, none⟩ (.slice (some ⟨y1, 0, none⟩) m1 c1)).setCell ⟨w.heap.size + 1, 1, none⟩ (.slice (some ⟨y2, 0, none⟩) m2 c2)).setCell ⟨w.heap.size + 1, 2, none⟩ (.slice ya np yc) := ⟨_, rfl⟩
      obtain ⟨r0, r1, r2⟩ := res_cells HR3.out (.slice (some ⟨y1, 0, none⟩) m1 c1) (.slice (some ⟨y2, 0, none⟩) m2 c2) (.slice ya np yc)
      have z4 := hb4.size
      have zr := hwr.size
      have HB7 : Hid (Below w.heap.size w W7) := by
        show Below _ _ _
        rw [hW7]
        exact below_set (below_set (below_set (hwr0.trans (hb6.mono hwr0.size)) (Nat.le_succ _)) (Nat.le_succ _)) (Nat.le_succ _)
      have HW1 : Hid (IsVals W7 (.slice (some ⟨y1, 0, none⟩) m1 c1) (doD P zs).vars) := by
        show IsVals _ _ _
        rw [hW7]
        have n5 : y1 ≠ w.heap.size + 1 := by omega
        exact ((HV1.out.set n5).set n5).set n5
      have HW2 : Hid (IsVals W7 (.slice (some ⟨y2, 0, none⟩) m2 c2) (doD P zs).things) := by
        show IsVals _ _ _
        rw [hW7]
        have n5 : y2 ≠ w.heap.size + 1 := by omega
        exact ((HV2.out.set n5).set n5).set n5
      have HW3 : Hid (IsCap W7 (.slice ya np yc) (doD P zs).places) := by
        show IsCap _ _ _
        rw [hW7]
        have hyb : ∀ g o, ya = some ⟨g, o, none⟩ → g ≠ w.heap.size + 1 := fun g o q => by have := HYB.out g o q; omega
        exact (((HCP.out.below hb6).set hyb).set hyb).set hyb
      rw [← hW7] at r0 r1 r2 ⊢
      clear hW7
      refine bodyPost_ret (v := .tuple #[.agg #[.slice (some ⟨y1, 0, none⟩) m1 c1, .slice (some ⟨y2, 0, none⟩) m2 c2, .slice ya np yc], .nilIface]) (by simp [results, Tryz.results37, go_sem, r0, r1, r2]) rfl ?_
      exact ⟨_, _, _, _, _, _, _, _, _, rfl, HW1.out, HW2.out, HW3.out, fun g o q => by cases q; omega, fun g o q => by cases q; omega, fun g o q => by have := HYB.out g o q; omega, HB7.out⟩
end Go.Proofs.YteekjigaicmohaaGreatDoor

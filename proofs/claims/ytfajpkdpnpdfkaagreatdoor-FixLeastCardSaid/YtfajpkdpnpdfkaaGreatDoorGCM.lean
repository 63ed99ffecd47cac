/-
  The document's RuleOf, by a contract.
-/
import Derived.Test.YtfajpkdpnpdfkaaGreatDoorXRM
import Derived.Test.YtfajpkdpnpdfkaaGreatDoorQFM
import Derived.Deep.RegionHeld3
namespace Go.Proofs.YtfajpkdpnpdfkaaGreatDoor
open Go.RowKit Go.Extern.Stop Go.Stop Go.Extern

abbrev TRf : TypeId := 44
abbrev zRule : Obj := .cells #[.string ⟨#[]⟩, .int .i64 0, .int .i64 0, .int .i64 0, .slice none 0 0] TRf
abbrev refBox (kd : ByteArray) (a b st : Int) (av : Value) : Obj := .cells #[.string kd, .int .i64 a, .int .i64 b, .int .i64 st, av] TRf
/-- Five cells are stored. -/
abbrev setR (w : World) (g : Nat) (kd : ByteArray) (a b st : Int) (av : Value) : World := ((((w.setCell ⟨g, 0, none⟩ (.string kd)).setCell ⟨g, 1, none⟩ (.int .i64 a)).setCell ⟨g, 2, none⟩ (.int .i64 b)).setCell ⟨g, 3, none⟩ (.int .i64 st)).setCell ⟨g, 4, none⟩ av
theorem set_otherG (w : World) (g k : Nat) (x : Value) (b : Nat) (h : g ≠ b) : (w.setCell ⟨g, k, none⟩ x).heap[b]? = w.heap[b]? := by
  simp only [World.setCell, Array.getElem?_modify]
  rw [if_neg h]
theorem setR_other {w : World} {g b : Nat} {kd : ByteArray} {a b' st : Int} {av : Value} {o : Obj} (h : w.heap[b]? = some o) (hne : g ≠ b) : (setR w g kd a b' st av).heap[b]? = some o := by
  unfold setR
  rw [set_otherG _ _ _ _ _ hne, set_otherG _ _ _ _ _ hne, set_otherG _ _ _ _ _ hne, set_otherG _ _ _ _ _ hne, set_otherG _ _ _ _ _ hne]
  exact h
theorem setR_same {w : World} {g : Nat} {kd0 : ByteArray} {a0 b0 st0 : Int} {av0 : Value} (kd : ByteArray) (a b st : Int) (av : Value) (h : w.heap[g]? = some (.cells #[.string kd0, .int .i64 a0, .int .i64 b0, .int .i64 st0, av0] TRf (0, 0))) : (setR w g kd a b st av).heap[g]? = some (.cells #[.string kd, .int .i64 a, .int .i64 b, .int .i64 st, av] TRf (0, 0)) := by
  have h1 := set_block w g 0 _ _ _ h (.string kd)
  have h2 := set_block _ g 1 _ _ _ h1 (.int .i64 a)
  have h3 := set_block _ g 2 _ _ _ h2 (.int .i64 b)
  have h4 := set_block _ g 3 _ _ _ h3 (.int .i64 st)
  have h5 := set_block _ g 4 _ _ _ h4 av
  exact h5
theorem setR_cell {w : World} {g b j : Nat} {kd : ByteArray} {a b' st : Int} {av v : Value} (h : w.cell? ⟨b, j, none⟩ = some v) (hne : b ≠ g) : (setR w g kd a b' st av).cell? ⟨b, j, none⟩ = some v := by
  unfold setR
  exact other_cell (other_cell (other_cell (other_cell (other_cell h hne) hne) hne) hne) hne
theorem setR_below {B : Nat} {w0 w : World} {g : Nat} {kd : ByteArray} {a b st : Int} {av : Value} (h : Below B w0 w) (hg : B ≤ g) : Below B w0 (setR w g kd a b st av) := ((((h.setCell hg _).setCell hg _).setCell hg _).setCell hg _).setCell hg _
theorem ruleCells {w : World} {g : Nat} {kd : ByteArray} {a b st : Int} {av : Value} (h : w.heap[g]? = some (.cells #[.string kd, .int .i64 a, .int .i64 b, .int .i64 st, av] TRf (0, 0))) :
    (w.cell? ⟨g, 0, none⟩ = some (.string kd) ∧ w.cell? ⟨g, 1, none⟩ = some (.int .i64 a) ∧ w.cell? ⟨g, 2, none⟩ = some (.int .i64 b) ∧ w.cell? ⟨g, 3, none⟩ = some (.int .i64 st) ∧ w.cell? ⟨g, 4, none⟩ = some av) ∧ (w.frozen? ⟨g, 0, none⟩ = false ∧ w.frozen? ⟨g, 1, none⟩ = false ∧ w.frozen? ⟨g, 2, none⟩ = false ∧ w.frozen? ⟨g, 3, none⟩ = false ∧ w.frozen? ⟨g, 4, none⟩ = false) := by
  refine ⟨⟨?_, ?_, ?_, ?_, ?_⟩, Lib.frozen_of_heap h 0, Lib.frozen_of_heap h 1, Lib.frozen_of_heap h 2, Lib.frozen_of_heap h 3, Lib.frozen_of_heap h 4⟩ <;> (rw [Lib.cell_of_heap h]; rfl)
/-- What RuleOf tells. -/
def RulePost (P : ProgD) (k : Nat) (w0 w w' : World) (e : Ending) : Prop := ∃ av, e = .returned (.agg #[.string (S (ruleD P k).kind), .int .i64 (ruleD P k).a, .int .i64 (ruleD P k).b, .int .i64 (ruleD P k).stmt, av]) ∧ IsInts w0 av (ruleD P k).args ∧ Below w.heap.size w w'
set_option maxRecDepth 100000 in
set_option maxHeartbeats 8000000 in
theorem refRule_any (P : ProgD) (k : Nat) (v1 v2 v3 : Value) (w0 w : World) (hS : SmallP P) (hc : checkE P = none) (h : IsProg w0 v1 v2 v3 P) (hb0 : Below w0.heap.size w0 w) (hk : k < P.stmts.length) :
    Calls Tryz.prog 15 #[.agg #[v1, v2, v3], .int .i64 (k : Int)] w fun e w' => RulePost P k w0 w w' e := by
  have H : Hid (IsProg w v1 v2 v3 P) := h.below hb0
  obtain ⟨⟨a1, c1, rfl, -, -⟩, ⟨a2, c2, rfl, -, -⟩, ⟨a3, c3, rfl, -, hst⟩⟩ := h
  obtain ⟨g, o, rfl, av, e0, e1, e2, e3, hav⟩ := hst k hk
  obtain ⟨hi, aa, ac, rfl, -⟩ := hav
  replace e0 := cell_keep hb0 e0
  replace e1 := cell_keep hb0 e1
  replace e2 := cell_keep hb0 e2
  replace e3 := cell_keep hb0 e3
  clear hb0
  obtain ⟨st, hste⟩ : ∃ z, z = P.stmts.getD k default := ⟨_, rfl⟩
  rw [← hste] at e0 e1 e2 e3 hi
  obtain ⟨n1, hn1⟩ : ∃ m, m = P.vars.length := ⟨_, rfl⟩
  obtain ⟨n2, hn2⟩ : ∃ m, m = P.funs.length := ⟨_, rfl⟩
  obtain ⟨n3, hn3⟩ : ∃ m, m = P.stmts.length := ⟨_, rfl⟩
  obtain ⟨na, hna⟩ : ∃ m, m = st.args.length := ⟨_, rfl⟩
  obtain ⟨kd, hkd⟩ : ∃ kd, kd = S st.kind := ⟨_, rfl⟩
  obtain ⟨x, hx⟩ : ∃ z, z = st.x := ⟨_, rfl⟩
  obtain ⟨y, hy⟩ : ∃ z, z = st.y := ⟨_, rfl⟩
  have hkl : kd.toList = st.kind := by rw [hkd, S_toList]
  have HST : Hid (st = P.stmts.getD k default ∧ kd = S st.kind ∧ x = st.x ∧ y = st.y ∧ na = st.args.length) := ⟨hste, hkd, hx, hy, hna⟩
  have hk3 : (k : Int) < n3 := by omega
  have HB3 : Hid (places P P.stmts.length ≤ 200 ∧ k ≤ 80 ∧ (st.kind = kFun → 0 ≤ y ∧ y < 8) ∧ 0 ≤ k) := by
    obtain ⟨s1, s2, s3⟩ := right_small hc
    have hpl := places_le P P.stmts.length
    refine ⟨by omega, by omega, fun q => ?_, Nat.zero_le _⟩
    obtain ⟨-, -, k3, -⟩ := stmt_parts ((right_of hc).st _ (getDmC hk))
    unfold yB at k3
    rw [← hste, q] at k3
    simp at k3
    have := funB_parts k3
    omega
  rw [← hn1, ← hn2, ← hn3] at H ⊢
  rw [← hkd] at e0
  rw [← hx] at e1
  rw [← hy] at e2
  rw [← hna] at e3 hi
  have HI : Hid (IsInts w0 (.slice aa na ac) st.args) := hi
  have KN : Hid (∀ wx, Below w.heap.size w wx → Calls Tryz.prog 48 #[.agg #[.slice a1 n1 c1, .slice a2 n2 c2, .slice (some ⟨g, o, none⟩) n3 c3]] wx fun e w' => e = .returned (.int .i64 ((places P P.stmts.length : Nat) : Int)) ∧ Below wx.heap.size wx w') := fun wx hb => refNodes_any P _ _ _ wx hS (H.out.below hb)
  have KP : Hid (st.kind = kNew → ∀ wx, Below w.heap.size w wx → Calls Tryz.prog 47 #[.agg #[.slice a1 n1 c1, .slice a2 n2 c2, .slice (some ⟨g, o, none⟩) n3 c3], .int .i64 (k : Int)] wx fun e w' => e = .returned (.int .i64 ((places P k : Nat) : Int)) ∧ Below wx.heap.size wx w') := fun q wx hb => by
    have := refPlace_any P (k : Int) _ _ _ wx hS (H.out.below hb) hc
    rw [placeD_in (by rw [hc]; rfl) ⟨Int.natCast_nonneg _, by omega, by rw [Int.toNat_natCast, ← hste]; exact q⟩, Int.toNat_natCast] at this
    exact this
  obtain ⟨W1, hW1⟩ : ∃ W, W = (w.alloc (.cells #[.slice a1 n1 c1, .slice a2 n2 c2, .slice (some ⟨g, o, none⟩) n3 c3] 26)).alloc zRule := ⟨_, rfl⟩
  have hB1 : Below w.heap.size w W1 := by rw [hW1]; exact (below1 w _).alloc (by simp) _
  have HX : Hid (W1.heap[w.heap.size]? = some (.cells #[.slice a1 n1 c1, .slice a2 n2 c2, .slice (some ⟨g, o, none⟩) n3 c3] 26 (0, 0)) ∧ W1.heap[w.heap.size + 1]? = some (.cells #[.string ⟨#[]⟩, .int .i64 0, .int .i64 0, .int .i64 0, .slice none 0 0] TRf (0, 0)) ∧ Below w.heap.size w W1) := by
    refine ⟨?_, ?_, hB1⟩
    · rw [hW1]; exact block_keep (below1 _ _) (heap_new w _)
    · rw [hW1]
      have := heap_new (w.alloc (.cells #[.slice a1 n1 c1, .slice a2 n2 c2, .slice (some ⟨g, o, none⟩) n3 c3] 26)) zRule
      simpa using this
  have p2 : W1.cell? ⟨w.heap.size, 2, none⟩ = some (.slice (some ⟨g, o, none⟩) n3 c3) := by rw [Lib.cell_of_heap HX.out.1]; rfl
  replace e0 := cell_keep hB1 e0
  replace e1 := cell_keep hB1 e1
  replace e2 := cell_keep hB1 e2
  replace e3 := cell_keep hB1 e3
  obtain ⟨W3, hW3⟩ : ∃ W, W = (W1.alloc (.cells #[.string kd, .int .i64 x, .int .i64 y, .slice aa na ac] 88)).alloc (refBox kd y x k (.slice aa na ac)) := ⟨_, rfl⟩
  have hB3 : Below W1.heap.size W1 W3 := by rw [hW3]; exact (below1 W1 _).alloc (by simp) _
  have hsz := HX.out.2.2.size
  have hlt1 : w.heap.size + 1 < W1.heap.size := (Array.getElem?_eq_some_iff.1 HX.out.2.1).1
  obtain ⟨s, hse⟩ : ∃ s, s = W1.heap.size := ⟨_, rfl⟩
  have HH : Hid (W3.heap[w.heap.size]? = some (.cells #[.slice a1 n1 c1, .slice a2 n2 c2, .slice (some ⟨g, o, none⟩) n3 c3] 26 (0, 0)) ∧ W3.heap[w.heap.size + 1]? = some (.cells #[.string ⟨#[]⟩, .int .i64 0, .int .i64 0, .int .i64 0, .slice none 0 0] TRf (0, 0)) ∧ W3.heap[s]? = some (.cells #[.string kd, .int .i64 x, .int .i64 y, .slice aa na ac] 88 (0, 0)) ∧ W3.heap[s + 1]? = some (.cells #[.string kd, .int .i64 y, .int .i64 x, .int .i64 k, .slice aa na ac] TRf (0, 0)) ∧ Below w.heap.size w W3 ∧ w.heap.size + 1 < s) := by
    refine ⟨block_keep hB3 HX.out.1, block_keep hB3 HX.out.2.1, ?_, ?_, HX.out.2.2.trans (hB3.mono hsz), by omega⟩
    · rw [hW3, hse]; exact block_keep (below1 _ _) (heap_new W1 _)
    · rw [hW3, hse]
      have := heap_new (W1.alloc (.cells #[.string kd, .int .i64 x, .int .i64 y, .slice aa na ac] 88)) (refBox kd y x k (.slice aa na ac))
      simpa using this
  have HRD : Hid (∀ r, r = ruleD P k → r = ruleD P k) := fun _ h => h
  have m0 : W3.cell? ⟨s, 0, none⟩ = some (.string kd) := by rw [Lib.cell_of_heap HH.out.2.2.1]; rfl
  have m1 : W3.cell? ⟨s, 1, none⟩ = some (.int .i64 x) := by rw [Lib.cell_of_heap HH.out.2.2.1]; rfl
  have m2 : W3.cell? ⟨s, 2, none⟩ = some (.int .i64 y) := by rw [Lib.cell_of_heap HH.out.2.2.1]; rfl
  obtain ⟨⟨t0, t1, t2, t3, t4⟩, tf0, tf1, tf2, tf3, tf4⟩ := ruleCells HH.out.2.2.2.1
  clear hst hste hn1 hn2 hn3 hna hkd hx hy hi hk hS hc
  go_enter Tryz.func15, Tryz.ntmps15
  go_upto_region 1 with fail
  rw [← hW1]
  clear hW1
  go_upto_region 3 with fail
  rw [← hW3]
  rw [← hse]
  clear hW3 hse hB3 hsz hlt1 e0 e1 e2 e3 p2 HX hB1
  by_cases q1 : st.kind = kAddr
  · have g0 : (kd.toList == [97, 100, 100, 114]) = true := by rw [hkl, q1]; decide
    have HRu : Hid (ruleD P k = ⟨kBase, x, y, k, []⟩) := by
      show _ = _
      unfold ruleD
      rw [← HST.out.1, if_pos q1, HST.out.2.2.1, HST.out.2.2.2.1]
    clear q1 hkl
    go_upto_region 10 with fail
    obtain ⟨V, hV⟩ : ∃ V, V = setR W3 (s + 1) ⟨#[98, 97, 115, 101]⟩ x y (k : Int) (.slice none 0 0) := ⟨_, rfl⟩
    have HV : Hid (V.heap[s + 1]? = some (.cells #[.string ⟨#[98, 97, 115, 101]⟩, .int .i64 x, .int .i64 y, .int .i64 k, .slice none 0 0] TRf (0, 0)) ∧ V.heap[w.heap.size + 1]? = some (.cells #[.string ⟨#[]⟩, .int .i64 0, .int .i64 0, .int .i64 0, .slice none 0 0] TRf (0, 0)) ∧ Below w.heap.size w V) := by
      rw [hV]
      have := HH.out.2.2.2.2.2
      exact ⟨setR_same _ _ _ _ _ HH.out.2.2.2.1, setR_other HH.out.2.1 (by omega), setR_below HH.out.2.2.2.2.1 (by omega)⟩
    clear t0 t1 t2 t3 t4 tf0 tf1 tf2 tf3 tf4
    unfold setR at hV
    rw [← hV]
    clear hV
    obtain ⟨⟨t0, t1, t2, t3, t4⟩, -⟩ := ruleCells HV.out.1
    obtain ⟨⟨r0, r1, r2, r3, r4⟩, f0, f1, f2, f3, f4⟩ := ruleCells HV.out.2.1
    have HF : Hid (Below w.heap.size w (setR V (w.heap.size + 1) ⟨#[98, 97, 115, 101]⟩ x y (k : Int) (.slice none 0 0))) := setR_below HV.out.2.2 (Nat.le_succ _)
    go_wp2_with fail
    refine bodyPost_ret (v := .agg #[.string ⟨#[98, 97, 115, 101]⟩, .int .i64 x, .int .i64 y, .int .i64 (k : Int), (.slice none 0 0)]) (by simp [results, Tryz.results15, go_sem, r0, r1, r2, r3, r4]) rfl ?_
    exact ⟨.slice none 0 0, by (rw [HRu.out]; try rfl), by rw [HRu.out]; exact IsInts.nil _ _ _, HF.out⟩
  by_cases q2 : st.kind = kNew
  · have g0 : (kd.toList == [97, 100, 100, 114]) = false := by rw [hkl, q2]; decide
    have g1 : (kd.toList == [110, 101, 119]) = true := by rw [hkl, q2]; decide
    obtain ⟨M, hM⟩ : ∃ M, M = places P k := ⟨_, rfl⟩
    have HRu : Hid (ruleD P k = ⟨kBase, x, M, k, []⟩) := by
      show _ = _
      unfold ruleD
      rw [← HST.out.1, if_neg q1, if_pos q2, HST.out.2.2.1, hM]
    have KPx : Hid (∀ wx, Below w.heap.size w wx → Calls Tryz.prog 47 #[.agg #[.slice a1 n1 c1, .slice a2 n2 c2, .slice (some ⟨g, o, none⟩) n3 c3], .int .i64 (k : Int)] wx fun e w' => e = .returned (.int .i64 (M : Int)) ∧ Below wx.heap.size wx w') := by
      rw [hM]; exact KP.out q2
    clear q1 q2 hkl hM KN KP
    have n1' : w.heap.size ≠ s + 1 := by have := HH.out.2.2.2.2.2; omega
    have n2' : s ≠ s + 1 := by omega
    obtain ⟨p0, p1, p2⟩ : Box3 W3 w.heap.size (.slice a1 n1 c1) (.slice a2 n2 c2) (.slice (some ⟨g, o, none⟩) n3 c3) := ⟨by rw [Lib.cell_of_heap HH.out.1]; rfl, by rw [Lib.cell_of_heap HH.out.1]; rfl, by rw [Lib.cell_of_heap HH.out.1]; rfl⟩
    have HW3 : Hid (Below w.heap.size w W3.drew) := HH.out.2.2.2.2.1.drew
    clear t0 t1 t2 t3 t4 tf0 tf1 tf2 tf3 tf4
    go_upto_region 7 with fail
    go_region_held3 (fun wx => Below w.heap.size w wx ∧ wx.cell? ⟨w.heap.size, 0, none⟩ = some (.slice a1 n1 c1) ∧ wx.cell? ⟨w.heap.size, 1, none⟩ = some (.slice a2 n2 c2) ∧ wx.cell? ⟨w.heap.size, 2, none⟩ = some (.slice (some ⟨g, o, none⟩) n3 c3) ∧ wx.cell? ⟨s, 1, none⟩ = some (.int .i64 x) ∧ wx.cell? ⟨s, 2, none⟩ = some (.int .i64 y))
      ((go_split_ands; first | exact ⟨HW3.out, p0, p1, p2, m1, m2⟩ | exact ⟨HW3.out.trans (hb8.mono HW3.out.size), cell_keep hb8 p0, cell_keep hb8 p1, cell_keep hb8 p2, cell_keep hb8 m1, cell_keep hb8 m2⟩ | exact ⟨setR_below (HW3.out.trans (hb8.mono HW3.out.size)) (by have := HH.out.2.2.2.2.2; omega), setR_cell (cell_keep hb8 p0) n1', setR_cell (cell_keep hb8 p1) n1', setR_cell (cell_keep hb8 p2) n1', setR_cell (cell_keep hb8 m1) n2', setR_cell (cell_keep hb8 m2) n2'⟩))
      ((go_at_call 47; refine (KPx.out _ ?_).mono ?_; (go_split_ands; assumption); rintro e w8 ⟨rfl, hb8⟩; obtain ⟨⟨t0, t1, t2, t3, t4⟩, tf0, tf1, tf2, tf3, tf4⟩ := ruleCells (block_keep hb8 HH.out.2.2.2.1)))
    obtain ⟨V, hV⟩ : ∃ V, V = setR w8 (s + 1) ⟨#[98, 97, 115, 101]⟩ x (M : Int) (k : Int) (.slice none 0 0) := ⟨_, rfl⟩
    have HV : Hid (V.heap[s + 1]? = some (.cells #[.string ⟨#[98, 97, 115, 101]⟩, .int .i64 x, .int .i64 (M : Int), .int .i64 k, .slice none 0 0] TRf (0, 0)) ∧ V.heap[w.heap.size + 1]? = some (.cells #[.string ⟨#[]⟩, .int .i64 0, .int .i64 0, .int .i64 0, .slice none 0 0] TRf (0, 0)) ∧ Below w.heap.size w V) := by
      rw [hV]
      have := HH.out.2.2.2.2.2
      exact ⟨setR_same _ _ _ _ _ (block_keep hb8 HH.out.2.2.2.1), setR_other (block_keep hb8 HH.out.2.1) (by omega), setR_below (HW3.out.trans (hb8.mono HW3.out.size)) (by omega)⟩
    clear t0 t1 t2 t3 t4 tf0 tf1 tf2 tf3 tf4 p0 p1 p2 m0 m1 m2
    unfold setR at hV
    rw [← hV]
    clear hV
    obtain ⟨⟨t0, t1, t2, t3, t4⟩, -⟩ := ruleCells HV.out.1
    obtain ⟨⟨r0, r1, r2, r3, r4⟩, f0, f1, f2, f3, f4⟩ := ruleCells HV.out.2.1
    have HF : Hid (Below w.heap.size w (setR V (w.heap.size + 1) ⟨#[98, 97, 115, 101]⟩ x (M : Int) (k : Int) (.slice none 0 0))) := setR_below HV.out.2.2 (Nat.le_succ _)
    go_wp2_with fail
    refine bodyPost_ret (v := .agg #[.string ⟨#[98, 97, 115, 101]⟩, .int .i64 x, .int .i64 (M : Int), .int .i64 (k : Int), (.slice none 0 0)]) (by simp [results, Tryz.results15, go_sem, r0, r1, r2, r3, r4]) rfl ?_
    exact ⟨.slice none 0 0, by (rw [HRu.out]; try rfl), by rw [HRu.out]; exact IsInts.nil _ _ _, HF.out⟩
  by_cases q3 : st.kind = kFun
  · have g0 : (kd.toList == [97, 100, 100, 114]) = false := by rw [hkl, q3]; decide
    have g1 : (kd.toList == [110, 101, 119]) = false := by rw [hkl, q3]; decide
    have g2 : (kd.toList == [102, 117, 110]) = true := by rw [hkl, q3]; decide
    have hyb := HB3.out.2.2.1 q3
    obtain ⟨M, hM⟩ : ∃ M, M = places P P.stmts.length := ⟨_, rfl⟩
    have hMl : M ≤ 200 := by rw [hM]; exact HB3.out.1
    have hwrp : IntKind.i64.wrap ((M : Int) + y) = (M : Int) + y := by rw [IntKind.wrap_i64]; omega
    have HRu : Hid (ruleD P k = ⟨kBase, x, (M : Int) + y, k, []⟩) := by
      show _ = _
      unfold ruleD
      rw [← HST.out.1, if_neg q1, if_neg q2, if_pos q3, HST.out.2.2.1, HST.out.2.2.2.1, hM]
    have KPx : Hid (∀ wx, Below w.heap.size w wx → Calls Tryz.prog 48 #[.agg #[.slice a1 n1 c1, .slice a2 n2 c2, .slice (some ⟨g, o, none⟩) n3 c3]] wx fun e w' => e = .returned (.int .i64 (M : Int)) ∧ Below wx.heap.size wx w') := by
      rw [hM]; exact KN.out
    clear q1 q2 q3 hkl hM KN KP hyb hMl
    have n1' : w.heap.size ≠ s + 1 := by have := HH.out.2.2.2.2.2; omega
    have n2' : s ≠ s + 1 := by omega
    obtain ⟨p0, p1, p2⟩ : Box3 W3 w.heap.size (.slice a1 n1 c1) (.slice a2 n2 c2) (.slice (some ⟨g, o, none⟩) n3 c3) := ⟨by rw [Lib.cell_of_heap HH.out.1]; rfl, by rw [Lib.cell_of_heap HH.out.1]; rfl, by rw [Lib.cell_of_heap HH.out.1]; rfl⟩
    have HW3 : Hid (Below w.heap.size w W3.drew) := HH.out.2.2.2.2.1.drew
    clear t0 t1 t2 t3 t4 tf0 tf1 tf2 tf3 tf4
    go_upto_region 9 with fail
    go_region_held3 (fun wx => Below w.heap.size w wx ∧ wx.cell? ⟨w.heap.size, 0, none⟩ = some (.slice a1 n1 c1) ∧ wx.cell? ⟨w.heap.size, 1, none⟩ = some (.slice a2 n2 c2) ∧ wx.cell? ⟨w.heap.size, 2, none⟩ = some (.slice (some ⟨g, o, none⟩) n3 c3) ∧ wx.cell? ⟨s, 1, none⟩ = some (.int .i64 x) ∧ wx.cell? ⟨s, 2, none⟩ = some (.int .i64 y))
      ((go_split_ands; first | exact ⟨HW3.out, p0, p1, p2, m1, m2⟩ | exact ⟨HW3.out.trans (hb8.mono HW3.out.size), cell_keep hb8 p0, cell_keep hb8 p1, cell_keep hb8 p2, cell_keep hb8 m1, cell_keep hb8 m2⟩ | exact ⟨setR_below (HW3.out.trans (hb8.mono HW3.out.size)) (by have := HH.out.2.2.2.2.2; omega), setR_cell (cell_keep hb8 p0) n1', setR_cell (cell_keep hb8 p1) n1', setR_cell (cell_keep hb8 p2) n1', setR_cell (cell_keep hb8 m1) n2', setR_cell (cell_keep hb8 m2) n2'⟩))
      ((go_at_call 48; refine (KPx.out _ ?_).mono ?_; (go_split_ands; assumption); rintro e w8 ⟨rfl, hb8⟩; obtain ⟨⟨t0, t1, t2, t3, t4⟩, tf0, tf1, tf2, tf3, tf4⟩ := ruleCells (block_keep hb8 HH.out.2.2.2.1)))
    obtain ⟨V, hV⟩ : ∃ V, V = setR w8 (s + 1) ⟨#[98, 97, 115, 101]⟩ x ((M : Int) + y) (k : Int) (.slice none 0 0) := ⟨_, rfl⟩
    have HV : Hid (V.heap[s + 1]? = some (.cells #[.string ⟨#[98, 97, 115, 101]⟩, .int .i64 x, .int .i64 ((M : Int) + y), .int .i64 k, .slice none 0 0] TRf (0, 0)) ∧ V.heap[w.heap.size + 1]? = some (.cells #[.string ⟨#[]⟩, .int .i64 0, .int .i64 0, .int .i64 0, .slice none 0 0] TRf (0, 0)) ∧ Below w.heap.size w V) := by
      rw [hV]
      have := HH.out.2.2.2.2.2
      exact ⟨setR_same _ _ _ _ _ (block_keep hb8 HH.out.2.2.2.1), setR_other (block_keep hb8 HH.out.2.1) (by omega), setR_below (HW3.out.trans (hb8.mono HW3.out.size)) (by omega)⟩
    clear t0 t1 t2 t3 t4 tf0 tf1 tf2 tf3 tf4 p0 p1 p2 m0 m1 m2
    unfold setR at hV
    rw [← hV]
    clear hV
    obtain ⟨⟨t0, t1, t2, t3, t4⟩, -⟩ := ruleCells HV.out.1
    obtain ⟨⟨r0, r1, r2, r3, r4⟩, f0, f1, f2, f3, f4⟩ := ruleCells HV.out.2.1
    have HF : Hid (Below w.heap.size w (setR V (w.heap.size + 1) ⟨#[98, 97, 115, 101]⟩ x ((M : Int) + y) (k : Int) (.slice none 0 0))) := setR_below HV.out.2.2 (Nat.le_succ _)
    go_wp2_with fail
    refine bodyPost_ret (v := .agg #[.string ⟨#[98, 97, 115, 101]⟩, .int .i64 x, .int .i64 ((M : Int) + y), .int .i64 (k : Int), (.slice none 0 0)]) (by simp [results, Tryz.results15, go_sem, r0, r1, r2, r3, r4]) rfl ?_
    exact ⟨.slice none 0 0, by (rw [HRu.out]; try rfl), by rw [HRu.out]; exact IsInts.nil _ _ _, HF.out⟩
  · have g0 : (kd.toList == [97, 100, 100, 114]) = false := beq_eq_false_iff_ne.2 (fun q => q1 (by rw [hkl] at q; exact q))
    have g1 : (kd.toList == [110, 101, 119]) = false := beq_eq_false_iff_ne.2 (fun q => q2 (by rw [hkl] at q; exact q))
    have g2 : (kd.toList == [102, 117, 110]) = false := beq_eq_false_iff_ne.2 (fun q => q3 (by rw [hkl] at q; exact q))
    have HRu : Hid (ruleD P k = ⟨st.kind, y, x, k, st.args⟩) := by
      show _ = _
      unfold ruleD
      rw [← HST.out.1, if_neg q1, if_neg q2, if_neg q3, HST.out.2.2.1, HST.out.2.2.2.1]
    have HV : Hid (W3.heap[s + 1]? = some (.cells #[.string kd, .int .i64 y, .int .i64 x, .int .i64 k, .slice aa na ac] TRf (0, 0)) ∧ W3.heap[w.heap.size + 1]? = some (.cells #[.string ⟨#[]⟩, .int .i64 0, .int .i64 0, .int .i64 0, .slice none 0 0] TRf (0, 0)) ∧ Below w.heap.size w W3) := ⟨HH.out.2.2.2.1, HH.out.2.1, HH.out.2.2.2.2.1⟩
    clear q1 q2 q3 hkl t0 t1 t2 t3 t4 tf0 tf1 tf2 tf3 tf4
    go_upto_region 10 with fail
    obtain ⟨⟨t0, t1, t2, t3, t4⟩, -⟩ := ruleCells HV.out.1
    obtain ⟨⟨r0, r1, r2, r3, r4⟩, f0, f1, f2, f3, f4⟩ := ruleCells HV.out.2.1
    have HF : Hid (Below w.heap.size w (setR W3 (w.heap.size + 1) kd y x (k : Int) (.slice aa na ac))) := setR_below HV.out.2.2 (Nat.le_succ _)
    go_wp2_with fail
    refine bodyPost_ret (v := .agg #[.string kd, .int .i64 y, .int .i64 x, .int .i64 (k : Int), (.slice aa na ac)]) (by simp [results, Tryz.results15, go_sem, r0, r1, r2, r3, r4]) rfl ?_
    exact ⟨.slice aa na ac, by (rw [HRu.out, HST.out.2.1]; try rfl), by rw [HRu.out]; exact HI.out, HF.out⟩
end Go.Proofs.YtfajpkdpnpdfkaaGreatDoor

/-
  Package prog: readStmt, by a contract.
-/
import Derived.Test.YtakmmpbkojhmhaaGreatDoorXPM
import Derived.Deep.DeepCutAuto
import Derived.Deep.RegionHeld3
namespace Go.Proofs.YtakmmpbkojhmhaaGreatDoor
open Go.RowKit Go.Extern.Stop Go.Stop Go.Extern

/-- Behind the making of the statement: it lies in a block of its own. -/
structure Made (w w4 wx : World) (B : Nat) (bk bx b_y : ByteArray) (lv : Value) (wb : Nat) (X : Int) (L : List Int) (sb : Nat) (pv : Value) : Prop where
  blk : wx.heap[sb]? = some (.cells #[.string bk, .int .i64 X, .int .i64 0, pv] 60 (0, 0))
  low : w4.heap.size ≤ sb
  row : wx.ownsRow B 3 1 pv L.length (L.map intV)
  bel : Below w4.heap.size w4 wx
  c0 : wx.cell? ⟨wb, 0, none⟩ = some (.string bk)
  c1 : wx.cell? ⟨wb, 1, none⟩ = some (.string bx)
  c2 : wx.cell? ⟨wb, 2, none⟩ = some (.string b_y)
  c3 : wx.cell? ⟨wb, 3, none⟩ = some lv

theorem cell_other {w : World} {b c i j : Nat} {x v : Value} (h : w.cell? ⟨b, j, none⟩ = some v) (hne : b ≠ c) : (w.setCell ⟨c, i, none⟩ x).cell? ⟨b, j, none⟩ = some v := by
  have : (w.setCell ⟨c, i, none⟩ x).heap[b]? = w.heap[b]? := by
    simp only [World.setCell, Array.getElem?_modify]
    rw [if_neg (fun q => hne q.symm)]
  simp only [World.cell?] at h ⊢
  rw [this]; exact h
abbrev zStmt : Obj := .cells #[.string ⟨#[]⟩, .int .i64 0, .int .i64 0, .slice none 0 0] 60
theorem made_early {w w4 wE : World} {B : Nat} {bk bx b_y : ByteArray} {lv : Value} {wb : Nat} {X : Int} {L : List Int} {pv : Value} (hz : wE.heap[w4.heap.size]? = some zStmt) (hwb : wb < w4.heap.size)
    (ho : wE.ownsRow B 3 1 pv L.length (L.map intV)) (hb : Below w4.heap.size w4 wE) (j0 : wE.cell? ⟨wb, 0, none⟩ = some (.string bk)) (j1 : wE.cell? ⟨wb, 1, none⟩ = some (.string bx)) (j2 : wE.cell? ⟨wb, 2, none⟩ = some (.string b_y)) (j3 : wE.cell? ⟨wb, 3, none⟩ = some lv) :
    Made w w4 ((((wE.setCell ⟨w4.heap.size, 0, none⟩ (.string bk)).setCell ⟨w4.heap.size, 1, none⟩ (.int .i64 X)).setCell ⟨w4.heap.size, 2, none⟩ (.int .i64 0)).setCell ⟨w4.heap.size, 3, none⟩ pv) B bk bx b_y lv wb X L w4.heap.size pv := by
  have s0 := set_block wE w4.heap.size 0 _ _ _ hz (.string bk)
  have s1 := set_block _ w4.heap.size 1 _ _ _ s0 (.int .i64 X)
  have s2 := set_block _ w4.heap.size 2 _ _ _ s1 (.int .i64 0)
  have s3 := set_block _ w4.heap.size 3 _ _ _ s2 pv
  have hne : wb ≠ w4.heap.size := by omega
  refine ⟨by rw [s3]; rfl, Nat.le_refl _, ?_, ?_, ?_, ?_, ?_, ?_⟩
  · exact owns_kept (owns_kept (owns_kept (owns_kept ho (kept_setCell hz _) (by decide)) (kept_setCell s0 _) (by decide)) (kept_setCell s1 _) (by decide)) (kept_setCell s2 _) (by decide)
  · exact (((hb.setCell (Nat.le_refl _) _).setCell (Nat.le_refl _) _).setCell (Nat.le_refl _) _).setCell (Nat.le_refl _) _
  · exact cell_other (cell_other (cell_other (cell_other j0 hne) hne) hne) hne
  · exact cell_other (cell_other (cell_other (cell_other j1 hne) hne) hne) hne
  · exact cell_other (cell_other (cell_other (cell_other j2 hne) hne) hne) hne
  · exact cell_other (cell_other (cell_other (cell_other j3 hne) hne) hne) hne

theorem made_late {w w4 wE : World} {B : Nat} {bk bx b_y : ByteArray} {lv : Value} {wb : Nat} {X : Int} {L : List Int} {pv : Value} (ho : wE.ownsRow B 3 1 pv L.length (L.map intV)) (hb : Below w4.heap.size w4 wE)
    (j0 : wE.cell? ⟨wb, 0, none⟩ = some (.string bk)) (j1 : wE.cell? ⟨wb, 1, none⟩ = some (.string bx)) (j2 : wE.cell? ⟨wb, 2, none⟩ = some (.string b_y)) (j3 : wE.cell? ⟨wb, 3, none⟩ = some lv) :
    Made w w4 (wE.alloc (.cells #[.string bk, .int .i64 X, .int .i64 0, pv] 60)) B bk bx b_y lv wb X L wE.heap.size pv :=
  ⟨heap_new _ _, hb.size, owns_below ho (below1 wE _), hb.alloc hb.size _, cell_keep (below1 wE _) j0, cell_keep (below1 wE _) j1, cell_keep (below1 wE _) j2, cell_keep (below1 wE _) j3⟩

/-- The statement whole, in a block of its own. -/
structure Full (w wx : World) (B : Nat) (bk : ByteArray) (X Y : Int) (L : List Int) (sb : Nat) (pv : Value) : Prop where
  blk : wx.heap[sb]? = some (.cells #[.string bk, .int .i64 X, .int .i64 Y, pv] 60 (0, 0))
  low : w.heap.size ≤ sb
  row : wx.ownsRow B 3 1 pv L.length (L.map intV)
  bel : Below w.heap.size w wx
theorem full_set {w w4 wc wx : World} {B : Nat} {bk bx b_y : ByteArray} {lv : Value} {wb : Nat} {X Y : Int} {L : List Int} {sb : Nat} {pv : Value} (hm : Made w w4 wc B bk bx b_y lv wb X L sb pv) (h4 : w.heap.size ≤ w4.heap.size) (hw : Below w.heap.size w wc) (hx : Below wc.heap.size wc wx) :
    Full w (wx.setCell ⟨sb, 2, none⟩ (.int .i64 Y)) B bk X Y L sb pv := by
  have hb := block_keep hx hm.blk
  refine ⟨by rw [set_block _ _ _ _ _ _ hb]; rfl, Nat.le_trans h4 hm.low, owns_kept (owns_below hm.row hx) (kept_setCell hb _) (by decide), (hw.trans (hx.mono hw.size)).setCell (Nat.le_trans h4 hm.low) _⟩

theorem below_al {w0 w : World} (h : Below w0.heap.size w0 w) (o : Obj) : Below w0.heap.size w0 (w.alloc o) := h.alloc h.size o
theorem below_st {w0 w : World} (h : Below w0.heap.size w0 w) (i : Nat) (v : Value) : Below w0.heap.size w0 (w.setCell ⟨w0.heap.size, i, none⟩ v) := h.setCell (Nat.le_refl _) v
theorem keepT {w0 w : World} {p0 p1 p2 p3 : Addr} {v0 v1 v2 v3 : Value} (k0 : w0.cell? p0 = some v0) (k1 : w0.cell? p1 = some v1) (k2 : w0.cell? p2 = some v2) (k3 : w0.cell? p3 = some v3) (hb : Below w0.heap.size w0 w) : w.cell? p0 = some v0 ∧ w.cell? p1 = some v1 ∧ w.cell? p2 = some v2 ∧ w.cell? p3 = some v3 :=
  ⟨cell_keep hb k0, cell_keep hb k1, cell_keep hb k2, cell_keep hb k3⟩
theorem keepU {w : World} {pb wb sb i0 i1 i2 i3 : Nat} {v0 v1 v2 v3 : Value} (h1 : pb ≠ sb) (h2 : wb ≠ sb) (h : w.cell? ⟨pb, i0, none⟩ = some v0 ∧ w.cell? ⟨pb, i1, none⟩ = some v1 ∧ w.cell? ⟨pb, i2, none⟩ = some v2 ∧ w.cell? ⟨wb, i3, none⟩ = some v3) (i : Nat) (x : Value) :
    (w.setCell ⟨sb, i, none⟩ x).cell? ⟨pb, i0, none⟩ = some v0 ∧ (w.setCell ⟨sb, i, none⟩ x).cell? ⟨pb, i1, none⟩ = some v1 ∧ (w.setCell ⟨sb, i, none⟩ x).cell? ⟨pb, i2, none⟩ = some v2 ∧ (w.setCell ⟨sb, i, none⟩ x).cell? ⟨wb, i3, none⟩ = some v3 :=
  ⟨cell_other h.1 h1, cell_other h.2.1 h1, cell_other h.2.2.1 h1, cell_other h.2.2.2 h2⟩
theorem keepS {w0 w : World} {p0 p1 p3 : Addr} {v0 v1 v3 : Value} (k0 : w0.cell? p0 = some v0) (k1 : w0.cell? p1 = some v1) (k3 : w0.cell? p3 = some v3) (hb : Below w0.heap.size w0 w) : Below w0.heap.size w0 w ∧ w.cell? p0 = some v0 ∧ w.cell? p1 = some v1 ∧ w.cell? p3 = some v3 :=
  ⟨hb, cell_keep hb k0, cell_keep hb k1, cell_keep hb k3⟩

set_option maxRecDepth 100000 in
set_option maxHeartbeats 8000000 in
theorem readStmt_any (a : Nat → Addr) (B pb : Nat) (P : ProgD) (s : Bs) (v1 v2 v3 : Value) (ps qs : List Value) (w : World) (hst : St w B pb P v1 v2 v3 ps qs) (hl1 : P.vars.length ≤ 100000) (hl2 : P.funs.length ≤ 100000) (hl : P.stmts.length ≤ 100000) (hz : s.length ≤ 100000) (hd : (parseD s).1.args.length ≤ 200000) (hE : Errs5 w a) (hM : MaxL w) :
    Calls Tryz.prog 147 #[.pointer (some ⟨pb, 0, none⟩), .string (S s)] w fun e w' => Does a B pb w w' (readStmtD P s) e := by
  have HST : Hid (St w B pb P v1 v2 v3 ps qs) := hst
  have HE : Hid (Errs5 w a) := hE
  have K1 : Hid (Calls Tryz.prog 180 #[.string (S s)] w fun e w' => Sent w w' (parseD s) e) := parse_any s w hz hM
  have K4 : Hid (∀ wx, Below w.heap.size w wx → Calls Tryz.prog 178 #[v1] wx fun e w' => ∃ nb, e = .returned (finderF nb) ∧ NamesAt w' nb P.vars ∧ Below wx.heap.size wx w') := fun wx hb => finder_any P.vars v1 wx (hst.below hb).isProg.vars
  have HB : Hid (∀ wx, Below w.heap.size w wx → Below B w wx) := fun wx h => h.mono hst.size
  have HSZ : Hid (B ≤ w.heap.size ∧ P.vars.length ≤ 1000000 ∧ P.funs.length ≤ 1000000 ∧ P.stmts.length ≤ 1000000) := ⟨hst.size, by omega, by omega, by omega⟩
  obtain ⟨d, hdd⟩ : ∃ d, d = (parseD s).1 := ⟨_, rfl⟩
  obtain ⟨D, hDD⟩ : ∃ D, D = (parseD s).2 := ⟨_, rfl⟩
  have hps : parseD s = (d, D) := by rw [hdd, hDD]
  rw [hps] at K1 hd
  have HX : Hid (D = false → readStmtD P s = (P, some 0)) := fun h => by
    unfold readStmtD
    rw [hps, h]; rfl
  have HY : Hid (D = true → readStmtD P s = if (sentS P d).x == -1 || (sentS P d).y == -1 || (sentS P d).args.contains (-1) then (P, some 5) else ({ P with stmts := P.stmts ++ [sentS P d] }, none)) := fun h => by
    unfold readStmtD
    rw [hps, h]; rfl
  obtain ⟨c0, c1, c2⟩ := hst.cells
  obtain ⟨a1, n1, rfl⟩ := owns_form hst.o1
  obtain ⟨a2, n2, rfl⟩ := owns_form hst.o2
  obtain ⟨a3, n3, rfl⟩ := owns_form hst.o3
  have hpb : pb < w.heap.size := (Array.getElem?_eq_some_iff.1 hst.blk).1
  obtain ⟨m1, hm1⟩ : ∃ m, m = P.vars.length := ⟨_, rfl⟩
  obtain ⟨m2, hm2⟩ : ∃ m, m = P.funs.length := ⟨_, rfl⟩
  obtain ⟨m3, hm3⟩ : ∃ m, m = P.stmts.length := ⟨_, rfl⟩
  have HMM : Hid (m1 = P.vars.length ∧ m2 = P.funs.length ∧ m3 = P.stmts.length) := ⟨hm1, hm2, hm3⟩
  rw [← hm1] at c0 K4
  rw [← hm2] at c1
  rw [← hm3] at c2
  rw [← hm1, ← hm2, ← hm3] at HST
  obtain ⟨bs, hbs⟩ : ∃ b, b = S s := ⟨_, rfl⟩
  rw [← hbs] at K1 ⊢
  have HD : Hid (d.args.length ≤ 200000) := hd
  clear hbs hm1 hm2 hm3 hst hE hM hps hdd hDD hl1 hl2 hl hz hd
  go_enter Tryz.func147, Tryz.ntmps147
  go_wp2_with fail
  refine K1.out.mono ?_
  rintro e w1 ⟨lv, rfl, hlv, -, hB1⟩
  have HLV : Hid (IsStrs w1 lv d.args) := hlv
  obtain ⟨la, lc, rfl, -, -⟩ := hlv
  obtain ⟨bk, hbk⟩ : ∃ b, b = S d.kind := ⟨_, rfl⟩
  obtain ⟨bx, hbx⟩ : ∃ b, b = S d.x := ⟨_, rfl⟩
  obtain ⟨b_y, hby⟩ : ∃ b, b = S d.y := ⟨_, rfl⟩
  have HBK : Hid (bk = S d.kind ∧ bx = S d.x ∧ b_y = S d.y) := ⟨hbk, hbx, hby⟩
  show _
  simp only [← hbk, ← hbx, ← hby]
  clear K1 hbk hbx hby
  have e0 := fun o => (HE.out.below (hB1.alloc hB1.size o)).c0
  have d0 := fun o => cell_keep (hB1.alloc hB1.size o) c0
  cases D with
  | false =>
    have hX : Hid (readStmtD P s = (P, some 0)) := HX.out rfl
    have HF : Hid (∀ o, Does a B pb w (w1.alloc o) (readStmtD P s) (.returned (.iface 231 (.pointer (some (a 0)))))) := fun o => by
      rw [hX.out]
      exact ⟨rfl, ⟨_, _, _, _, _, HST.out.below (hB1.alloc hB1.size o)⟩, HB.out _ (hB1.alloc hB1.size o)⟩
    clear HX HY
    go_wp2_with fail
    go_ret
    exact HF.out _
  | true =>
  have HY2 : Hid (readStmtD P s = if (sentS P d).x == -1 || (sentS P d).y == -1 || (sentS P d).args.contains (-1) then (P, some 5) else ({ P with stmts := P.stmts ++ [sentS P d] }, none)) := HY.out rfl
  clear HX HY
  go_wp2_with fail
  refine (K4.out _ (hB1.alloc hB1.size _)).mono ?_
  rintro e w4 ⟨nb, rfl, hnb, hB4⟩
  have hB4w : Below w.heap.size w w4 := (hB1.alloc hB1.size _).trans (hB4.mono (hB1.alloc hB1.size _).size)
  have HN4 : Hid (NamesAt w4 nb P.vars ∧ IsStrs w4 (.slice la d.args.length lc) d.args) := ⟨hnb, (HLV.out.below (below1 w1 _)).below hB4⟩
  have k0 : w4.cell? ⟨w1.heap.size, 0, none⟩ = some (.string bk) := cell_keep hB4 (by simp)
  have k1 : w4.cell? ⟨w1.heap.size, 1, none⟩ = some (.string bx) := cell_keep hB4 (by simp)
  have k2 : w4.cell? ⟨w1.heap.size, 2, none⟩ = some (.string b_y) := cell_keep hB4 (by simp)
  have k3 : w4.cell? ⟨w1.heap.size, 3, none⟩ = some (.slice la d.args.length lc) := cell_keep hB4 (by simp)
  have hwb : w1.heap.size < w4.heap.size := lt_of_cell k0
  obtain ⟨wb, hwbe⟩ : ∃ b, b = w1.heap.size := ⟨_, rfl⟩
  rw [← hwbe] at k0 k1 k2 k3 hwb ⊢
  clear hnb K4 HLV hB4 e0 d0 hB1 hwbe
  obtain ⟨X, hX⟩ : ∃ X, X = idx P.vars d.x := ⟨_, rfl⟩
  obtain ⟨L, hL⟩ : ∃ L, L = d.args.map (idx P.vars) := ⟨_, rfl⟩
  have KF : Hid (∀ wx, Below w4.heap.size w4 wx → Calls Tryz.prog 198 #[.string bx, .pointer (some ⟨nb, 0, none⟩)] wx fun e w' => e = .returned (.int .i64 X) ∧ w' = wx) := fun wx hb => by
    rw [HBK.out.2.1, hX]; exact finder1_any P.vars d.x nb wx HSZ.out.2.1 (HN4.out.1.below hb)
  have KE : Hid (∀ wx, Below w4.heap.size w4 wx → Calls Tryz.prog 179 #[.slice la d.args.length lc, finderF nb] wx fun e w' => ∃ pa pc, e = .returned (.slice pa L.length pc) ∧ w'.ownsRow B 3 1 (.slice pa L.length pc) L.length (L.map intV) ∧ Below w4.heap.size w4 w' ∧ Below wx.heap.size wx w' ∧ w'.cell? ⟨wb, 0, none⟩ = some (.string bk) ∧ w'.cell? ⟨wb, 1, none⟩ = some (.string bx) ∧ w'.cell? ⟨wb, 2, none⟩ = some (.string b_y) ∧ w'.cell? ⟨wb, 3, none⟩ = some (.slice la d.args.length lc)) := fun wx hb => by
    refine (eachSI P.vars d.args _ nb wx HSZ.out.2.1 (by have := HD.out; omega) (HN4.out.2.below hb) (HN4.out.1.below hb)).mono ?_
    rintro e w' ⟨pv, rfl, ho, hB'⟩
    rw [← hL] at ho
    have ho2 := owns_mono ho (Nat.le_trans HSZ.out.1 (Nat.le_trans hB4w.size hb.size))
    obtain ⟨pa, pc, rfl⟩ := owns_form ho
    have hb' := hb.trans (hB'.mono hb.size)
    exact ⟨pa, pc, rfl, ho2, hb', hB', cell_keep hb' k0, cell_keep hb' k1, cell_keep hb' k2, cell_keep hb' k3⟩
  have HXL : Hid (X = idx P.vars d.x ∧ L = d.args.map (idx P.vars)) := ⟨hX, hL⟩
  clear hX hL
  go_upto_region 5 with fail
  go_cut [8] (fun s8 wx => ∃ sb pa pc, s8 = .pointer (some ⟨sb, 0, none⟩) ∧ Made w w4 wx B bk bx b_y (.slice la d.args.length lc) wb X L sb (.slice pa L.length pc))
  case first =>
    go_region_held3 (fun wx => Below w4.heap.size w4 wx ∧ wx.cell? ⟨wb, 0, none⟩ = some (.string bk) ∧ wx.cell? ⟨wb, 1, none⟩ = some (.string bx) ∧ wx.cell? ⟨wb, 3, none⟩ = some (.slice la d.args.length lc))
      ((go_split_ands; refine keepS k0 k1 k3 ?_; repeat (with_reducible first | assumption | exact Below.refl _ _ | refine Below.drew ?_ | refine below_al ?_ _ | refine below_st ?_ _ _)))
      (first
        | (go_at_call 198; refine (KF.out _ ?_).mono ?_; (go_split_ands; assumption); rintro e wx ⟨rfl, hwx⟩; obtain rfl := hwx.symm; clear hwx)
        | (go_at_call 179; refine (KE.out _ ?_).mono ?_; (go_split_ands; assumption); rintro e wE ⟨pa, pc, rfl, ho, hBe, hBx, j0, j1, j2, j3⟩; (try (have hz := block_keep hBx (show ((w4.alloc zStmt).drew).heap[w4.heap.size]? = some zStmt from heap_new w4 _); have z0 := Lib.cell_of_heap hz 0; have z1 := Lib.cell_of_heap hz 1; have z2 := Lib.cell_of_heap hz 2; have z3 := Lib.cell_of_heap hz 3; simp only [List.getElem?_toArray, List.getElem?_cons_zero, List.getElem?_cons_succ] at z0 z1 z2 z3; have y0 := frozen_of_block hz 0; have y1 := frozen_of_block hz 1; have y2 := frozen_of_block hz 2; have y3 := frozen_of_block hz 3; have HZZ : Hid (wE.heap[w4.heap.size]? = some zStmt) := hz; clear hz)); clear hBx))
    all_goals (go_wp2_with fail; go_meet)
    all_goals first
      | with_reducible exact ⟨wE.heap.size, pa, pc, rfl, made_late ho hBe j0 j1 j2 j3⟩
      | exact ⟨w4.heap.size, pa, pc, rfl, made_early HZZ.out hwb ho hBe j0 j1 j2 j3⟩
  case rest =>
  obtain ⟨sb, pa, pc, rfl, hm⟩ := hcut
  have HM : Hid (Made w w4 wc B bk bx b_y (.slice la d.args.length lc) wb X L sb (.slice pa L.length pc)) := hm
  have hbc : Below w.heap.size w wc := hB4w.trans (hm.bel.mono hB4w.size)
  have mk0 := hm.c0
  have mk2 := hm.c2
  have h4w : w.heap.size ≤ w4.heap.size := hB4w.size
  have hsb : sb < wc.heap.size := (Array.getElem?_eq_some_iff.1 hm.blk).1
  have s2 : wc.cell? ⟨sb, 2, none⟩ = some (.int .i64 0) := by rw [Lib.cell_of_heap hm.blk]; rfl
  have f2 : wc.frozen? ⟨sb, 2, none⟩ = false := Lib.frozen_of_heap hm.blk 2
  have hsw : sb ≠ wb := fun q => by have := hm.low; omega
  have HLL : Hid (L.length ≤ 200000) := by
    show L.length ≤ 200000
    rw [HXL.out.2, List.length_map]; exact HD.out
  have KA : Hid (∀ wt Y, Full w wt B bk X Y L sb (.slice pa L.length pc) → Y = sentY P d →
      (∃ v' w', (Builtin.append_ #[41, 41] 41 #[.slice a3 m3 n3, .slice (some ⟨wt.heap.size, 0, none⟩) 1 1]).run Tryz.prog ((wt.alloc (.cells #[.string bk, .int .i64 X, .int .i64 Y, .slice pa L.length pc] 60)).drew) = .ok v' w' ∧
        w'.cell? ⟨pb, 2, none⟩ = some (.slice a3 m3 n3) ∧ w'.frozen? ⟨pb, 2, none⟩ = false ∧ (∃ a n c, v' = .slice a n c) ∧ St (w'.setCell ⟨pb, 2, none⟩ v') B pb { P with stmts := P.stmts ++ [sentS P d] } (.slice a1 m1 n1) (.slice a2 m2 n2) v' ps (qs ++ [.slice pa L.length pc]) ∧ Below B w (w'.setCell ⟨pb, 2, none⟩ v'))) := fun wt Y hf hY => by
    have := (HST.out.below hf.bel.drew).addStmt HSZ.out.2.2.2 (sentS P d) (.slice pa L.length pc) (by
      have := owns_below hf.row (Below.refl _ wt).drew
      rw [HXL.out.2] at this ⊢
      exact this)
    obtain ⟨v', w', h1, h2, h3, h4, h5, h6⟩ := this
    refine ⟨v', w', ?_, h2, h3, h4, h5, (HB.out _ hf.bel.drew).trans h6⟩
    rw [HBK.out.1, HXL.out.1, hY]
    exact h1
  have KD : Hid (∀ wt, Below w.heap.size w wt → readStmtD P s = (P, some 5) → Does a B pb w wt (readStmtD P s) (.returned (.iface 231 (.pointer (some (a 5)))))) := fun wt hb h => by
    rw [h]
    exact ⟨rfl, ⟨_, _, _, _, _, HST.out.below hb⟩, HB.out _ hb⟩
  have KY : Hid (∀ Y, Y = sentY P d → readStmtD P s = if X == -1 || Y == -1 || L.contains (-1) then (P, some 5) else ({ P with stmts := P.stmts ++ [sentS P d] }, none)) := fun Y hY => by
    rw [HY2.out, hY, HXL.out.1, HXL.out.2]; rfl
  have KC : Hid (∀ wt Y, Full w wt B bk X Y L sb (.slice pa L.length pc) → Calls Tryz.prog 50 #[.slice pa L.length pc, .int .i64 (-1)] wt fun e w' => e = .returned (.bool (L.contains (-1))) ∧ w' = wt) := fun wt Y hf => containsI_any L _ (-1) _ (by have := HLL.out; omega) (isCap_of_owns hf.row).1
  have KN : Hid (∀ wx, Below wc.heap.size wc wx → NamesAt wx nb P.vars) := fun wx hx => (HN4.out.1.below HM.out.bel).below hx
  have hpbs : pb ≠ sb := fun q => by have := hm.low; omega
  have KE5 : Hid (∀ wt, Below w.heap.size w wt → wt.cell? ⟨7, 0, none⟩ = some (.iface 231 (.pointer (some (a 5))))) := fun wt hb => (HE.out.below hb).c5
  have KP : Hid (∀ wt, Below w.heap.size w wt → wt.cell? ⟨pb, 2, none⟩ = some (.slice a3 m3 n3)) := fun wt hb => cell_keep hb c2
  have KP2 : Hid (∀ wt, Below w.heap.size w wt → wt.cell? ⟨pb, 0, none⟩ = some (.slice a1 m1 n1) ∧ wt.cell? ⟨pb, 1, none⟩ = some (.slice a2 m2 n2)) := fun wt hb => ⟨cell_keep hb c0, cell_keep hb c1⟩
  clear hm KF KE k0 k1 k2 k3 c0 c1 c2 HY2 HMM hwb hB4w hpb
  have toK : Hid (∀ x : Bs, bk.toList = x ↔ d.kind = x) := fun x => by rw [HBK.out.1, S_toList]
  obtain ⟨D1, hD1⟩ : ∃ D, (bk.toList == [110, 101, 119]) = D := ⟨_, rfl⟩
  obtain ⟨D2, hD2⟩ : ∃ D, (bk.toList == [102, 117, 110]) = D := ⟨_, rfl⟩
  have hsw2 : wb ≠ sb := fun q => hsw q.symm
  obtain ⟨wd, rfl⟩ : ∃ wd, wd = wc := ⟨_, rfl⟩
  cases D1 with
  | true =>
    obtain ⟨Y, hYd⟩ : ∃ Y : Int, Y = 0 := ⟨_, rfl⟩
    have HF0 : Hid (Full w wd B bk X Y L sb (.slice pa L.length pc) ∧ Y = sentY P d) := by
      rw [hYd]
      exact ⟨⟨HM.out.blk, Nat.le_trans h4w HM.out.low, HM.out.row, hbc⟩, by
        unfold sentY
        rw [(toK.out _).1 (eq_of_beq hD1)]; rfl⟩
    clear hD2 hYd
    go_upto_region 11 with fail
    obtain ⟨wt, hwt⟩ : ∃ wt, wt = wd := ⟨_, rfl⟩
    have HF : Hid (Full w wt B bk X Y L sb (.slice pa L.length pc)) := by rw [hwt]; exact HF0.out.1
    have hYe : Hid (Y = sentY P d) := HF0.out.2
    rw [← hwt]
    clear hwt HF0
    clear hsb hbc toK hsw hsw2
    clear mk0 mk2 s2 f2 hD1
    obtain ⟨hbl, hlow, hrow, hbel⟩ := HF.out
    have t0 : wt.cell? ⟨sb, 0, none⟩ = some (.string bk) := by rw [Lib.cell_of_heap hbl]; rfl
    have t1 : wt.cell? ⟨sb, 1, none⟩ = some (.int .i64 X) := by rw [Lib.cell_of_heap hbl]; rfl
    have t2 : wt.cell? ⟨sb, 2, none⟩ = some (.int .i64 Y) := by rw [Lib.cell_of_heap hbl]; rfl
    have t3 : wt.cell? ⟨sb, 3, none⟩ = some (.slice pa L.length pc) := by rw [Lib.cell_of_heap hbl]; rfl
    have hpw : pb < wt.heap.size := lt_of_cell (KP.out wt hbel)
    have e5 := KE5.out wt hbel
    have q2 := KP.out wt hbel
    have q2' := fun o => cell_keep (below1 wt o) q2
    have hY := KY.out Y hYe.out
    have HY : Hid (readStmtD P s = if X == -1 || Y == -1 || L.contains (-1) then (P, some 5) else ({ P with stmts := P.stmts ++ [sentS P d] }, none)) := hY
    have HDO : Hid (readStmtD P s = (P, some 5) → Does a B pb w wt (readStmtD P s) (.returned (.iface 231 (.pointer (some (a 5)))))) := KD.out wt hbel
    have HCC : Hid (Calls Tryz.prog 50 #[.slice pa L.length pc, .int .i64 (-1)] wt fun e w' => e = .returned (.bool (L.contains (-1))) ∧ w' = wt) := KC.out wt Y HF.out
    have HAA := KA.out wt Y HF.out hYe.out
    obtain ⟨D4, hD4⟩ : ∃ D, D = L.contains (-1) := ⟨_, rfl⟩
    rw [← hD4] at HY HCC
    obtain ⟨v', w7, hr0, d0, d1, ⟨xa, xn, xc, rfl⟩, hS, hBe⟩ := HAA
    have HS7 : Hid (St (w7.setCell ⟨pb, 2, none⟩ (.slice xa xn xc)) B pb { P with stmts := P.stmts ++ [sentS P d] } (.slice a1 m1 n1) (.slice a2 m2 n2) (.slice xa xn xc) ps (qs ++ [.slice pa L.length pc]) ∧ Below B w (w7.setCell ⟨pb, 2, none⟩ (.slice xa xn xc))) := ⟨hS, hBe⟩
    have HR : Hid ((Builtin.append_ #[41, 41] 41 #[.slice a3 m3 n3, .slice (some ⟨wt.heap.size, 0, none⟩) 1 1]).run Tryz.prog ((wt.alloc (.cells #[.string bk, .int .i64 X, .int .i64 Y, .slice pa L.length pc] 60)).drew) = .ok (.slice xa xn xc) w7) := hr0
    clear hr0 hS hBe hD4 hY hbl hrow KA KD KY KC KE5 KP KP2 KN HF HM
    by_cases hx1 : X = -1
    · subst hx1
      have HFF : Hid _ := HDO.out (by rw [HY.out]; rfl)
      clear HDO HR HS7 HCC HY
      go_wp2_with fail
      go_ret
      exact HFF.out
    have hx2 : (X == -1) = false := beq_eq_false_iff_ne.2 hx1
    by_cases hy1 : Y = -1
    · rw [hy1] at t2 HY HR
      have HFF : Hid _ := HDO.out (by rw [HY.out]; simp)
      clear HDO HR HS7 HCC HY
      go_wp2_with fail
      go_ret
      exact HFF.out
    have hy2 : (Y == -1) = false := beq_eq_false_iff_ne.2 hy1
    go_wp2_with fail
    refine HCC.out.mono ?_
    rintro e w6 ⟨rfl, hw⟩
    obtain rfl := hw.symm
    clear hw HCC
    cases D4 with
    | true =>
      have HFF : Hid _ := HDO.out (by rw [HY.out]; simp)
      clear HDO HR HS7 HY
      go_wp2_with fail
      go_ret
      exact HFF.out
    | false =>
      have HZ : Hid (readStmtD P s = ({ P with stmts := P.stmts ++ [sentS P d] }, none)) := by
        show readStmtD P s = _
        rw [HY.out, hx2, hy2]; rfl
      clear HDO HY
      go_wp2_with fail
      go_region_law (refine step_append_run rfl (.tmp 71) (.tmp 73) _ _ rfl _ _ rfl rfl _ _ HR.out ?_)
      all_goals (go_wp2_with fail; go_ret)
      all_goals rw [HZ.out]
      all_goals exact ⟨rfl, ⟨_, _, _, _, _, HS7.out.1⟩, HS7.out.2⟩
  | false =>
  cases D2 with
  | true =>
    have hYe : idx (fnames P) d.y = sentY P d := by
      unfold sentY
      rw [(toK.out _).1 (eq_of_beq hD2)]; rfl
    obtain ⟨Y, hYd⟩ : ∃ Y, Y = idx (fnames P) d.y := ⟨_, rfl⟩
    have q0 := (KP2.out wd hbc).1
    have q1 := (KP2.out wd hbc).2
    have q2 := KP.out wd hbc
    have KFN : Hid (Calls Tryz.prog 67 #[.agg #[.slice a1 m1 n1, .slice a2 m2 n2, .slice a3 m3 n3]] wd.drew fun e w' => ∃ fv, e = .returned fv ∧ IsStrs w' fv (fnames P) ∧ Below wd.heap.size wd w') := by
      refine (funNames_any P _ _ _ wd.drew HSZ.out.2.2.1 (HST.out.below hbc.drew).isProg).mono ?_
      rintro e w' ⟨fv, rfl, hfv, hb'⟩
      exact ⟨fv, rfl, hfv, (Below.refl _ wd).drew.trans hb'⟩
    have KFI : Hid (∀ fv wx, IsStrs wx fv (fnames P) → Below wd.heap.size wd wx → Calls Tryz.prog 178 #[fv] wx fun e w' => ∃ n2, e = .returned (finderF n2) ∧ NamesAt w' n2 (fnames P) ∧ Below wd.heap.size wd w') := fun fv wx hfv hb => by
      refine (finder_any (fnames P) fv wx hfv).mono ?_
      rintro e w' ⟨n2, rfl, hn2, hb'⟩
      exact ⟨n2, rfl, hn2, hb.trans (hb'.mono hb.size)⟩
    have KF1 : Hid (∀ n2 wx, NamesAt wx n2 (fnames P) → Calls Tryz.prog 198 #[.string b_y, .pointer (some ⟨n2, 0, none⟩)] wx fun e w' => e = .returned (.int .i64 Y) ∧ w' = wx) := fun n2 wx hn => by
      rw [HBK.out.2.2, hYd]
      exact finder1_any (fnames P) d.y n2 wx (by rw [show (fnames P).length = P.funs.length by simp [fnames]]; exact HSZ.out.2.2.1) hn
    rw [← hYd] at hYe
    have KFU : Hid (∀ wx, Below wd.heap.size wd wx → Full w (wx.setCell ⟨sb, 2, none⟩ (.int .i64 Y)) B bk X Y L sb (.slice pa L.length pc) ∧ Y = sentY P d) := fun wx hb => ⟨full_set HM.out h4w hbc hb, hYe⟩
    have KSS : Hid (∀ wx, Below wd.heap.size wd wx → wx.cell? ⟨sb, 2, none⟩ = some (.int .i64 0) ∧ wx.frozen? ⟨sb, 2, none⟩ = false) := fun wx hb => ⟨cell_keep hb s2, Lib.frozen_of_heap (block_keep hb HM.out.blk) 2⟩
    clear hYd hYe s2 f2
    go_upto_region 10 with fail
    go_region_held3 (fun wx => wx.cell? ⟨pb, 0, none⟩ = some (.slice a1 m1 n1) ∧ wx.cell? ⟨pb, 1, none⟩ = some (.slice a2 m2 n2) ∧ wx.cell? ⟨pb, 2, none⟩ = some (.slice a3 m3 n3) ∧ wx.cell? ⟨wb, 2, none⟩ = some (.string b_y))
      ((go_split_ands; first
        | (refine keepT q0 q1 q2 mk2 ?_; (repeat (with_reducible first | assumption | exact Below.refl _ _ | refine Below.drew ?_)); done)
        | (refine keepU hpbs hsw2 ⟨by assumption, by assumption, by assumption, by assumption⟩ _ _)))
      (first
        | (go_at_call 67; refine KFN.out.mono ?_; rintro e w5 ⟨fv, rfl, hfv, hb5⟩)
        | (go_at_call 178; refine (KFI.out _ _ hfv hb5).mono ?_; rintro e w6 ⟨nf, rfl, hn2, hb6⟩; have z7 := (KSS.out w6 hb6).1; have z8 := (KSS.out w6 hb6).2)
        | (go_at_call 198; refine (KF1.out _ _ hn2).mono ?_; rintro e w8 ⟨rfl, hw⟩; obtain rfl := hw.symm; clear hw))
    have HF0 : Hid (Full w (w6.setCell ⟨sb, 2, none⟩ (.int .i64 Y)) B bk X Y L sb (.slice pa L.length pc) ∧ Y = sentY P d) := KFU.out _ hb6
    clear KFU KF1 KFI KFN KSS q0 q1 q2 hfv hb5 hn2 hb6 z7 z8
    go_upto_region 11 with fail
    obtain ⟨wt, hwt⟩ : ∃ wt, wt = w6.setCell ⟨sb, 2, none⟩ (.int .i64 Y) := ⟨_, rfl⟩
    have HF : Hid (Full w wt B bk X Y L sb (.slice pa L.length pc)) := by rw [hwt]; exact HF0.out.1
    have hYe : Hid (Y = sentY P d) := HF0.out.2
    rw [← hwt]
    clear hwt HF0
    clear hsb hbc toK hsw hsw2
    clear mk0 mk2 hD1 hD2
    obtain ⟨hbl, hlow, hrow, hbel⟩ := HF.out
    have t0 : wt.cell? ⟨sb, 0, none⟩ = some (.string bk) := by rw [Lib.cell_of_heap hbl]; rfl
    have t1 : wt.cell? ⟨sb, 1, none⟩ = some (.int .i64 X) := by rw [Lib.cell_of_heap hbl]; rfl
    have t2 : wt.cell? ⟨sb, 2, none⟩ = some (.int .i64 Y) := by rw [Lib.cell_of_heap hbl]; rfl
    have t3 : wt.cell? ⟨sb, 3, none⟩ = some (.slice pa L.length pc) := by rw [Lib.cell_of_heap hbl]; rfl
    have hpw : pb < wt.heap.size := lt_of_cell (KP.out wt hbel)
    have e5 := KE5.out wt hbel
    have q2 := KP.out wt hbel
    have q2' := fun o => cell_keep (below1 wt o) q2
    have hY := KY.out Y hYe.out
    have HY : Hid (readStmtD P s = if X == -1 || Y == -1 || L.contains (-1) then (P, some 5) else ({ P with stmts := P.stmts ++ [sentS P d] }, none)) := hY
    have HDO : Hid (readStmtD P s = (P, some 5) → Does a B pb w wt (readStmtD P s) (.returned (.iface 231 (.pointer (some (a 5)))))) := KD.out wt hbel
    have HCC : Hid (Calls Tryz.prog 50 #[.slice pa L.length pc, .int .i64 (-1)] wt fun e w' => e = .returned (.bool (L.contains (-1))) ∧ w' = wt) := KC.out wt Y HF.out
    have HAA := KA.out wt Y HF.out hYe.out
    obtain ⟨D4, hD4⟩ : ∃ D, D = L.contains (-1) := ⟨_, rfl⟩
    rw [← hD4] at HY HCC
    obtain ⟨v', w7, hr0, d0, d1, ⟨xa, xn, xc, rfl⟩, hS, hBe⟩ := HAA
    have HS7 : Hid (St (w7.setCell ⟨pb, 2, none⟩ (.slice xa xn xc)) B pb { P with stmts := P.stmts ++ [sentS P d] } (.slice a1 m1 n1) (.slice a2 m2 n2) (.slice xa xn xc) ps (qs ++ [.slice pa L.length pc]) ∧ Below B w (w7.setCell ⟨pb, 2, none⟩ (.slice xa xn xc))) := ⟨hS, hBe⟩
    have HR : Hid ((Builtin.append_ #[41, 41] 41 #[.slice a3 m3 n3, .slice (some ⟨wt.heap.size, 0, none⟩) 1 1]).run Tryz.prog ((wt.alloc (.cells #[.string bk, .int .i64 X, .int .i64 Y, .slice pa L.length pc] 60)).drew) = .ok (.slice xa xn xc) w7) := hr0
    clear hr0 hS hBe hD4 hY hbl hrow KA KD KY KC KE5 KP KP2 KN HF HM
    by_cases hx1 : X = -1
    · subst hx1
      have HFF : Hid _ := HDO.out (by rw [HY.out]; rfl)
      clear HDO HR HS7 HCC HY
      go_wp2_with fail
      go_ret
      exact HFF.out
    have hx2 : (X == -1) = false := beq_eq_false_iff_ne.2 hx1
    by_cases hy1 : Y = -1
    · rw [hy1] at t2 HY HR
      have HFF : Hid _ := HDO.out (by rw [HY.out]; simp)
      clear HDO HR HS7 HCC HY
      go_wp2_with fail
      go_ret
      exact HFF.out
    have hy2 : (Y == -1) = false := beq_eq_false_iff_ne.2 hy1
    go_wp2_with fail
    refine HCC.out.mono ?_
    rintro e w6 ⟨rfl, hw⟩
    obtain rfl := hw.symm
    clear hw HCC
    cases D4 with
    | true =>
      have HFF : Hid _ := HDO.out (by rw [HY.out]; simp)
      clear HDO HR HS7 HY
      go_wp2_with fail
      go_ret
      exact HFF.out
    | false =>
      have HZ : Hid (readStmtD P s = ({ P with stmts := P.stmts ++ [sentS P d] }, none)) := by
        show readStmtD P s = _
        rw [HY.out, hx2, hy2]; rfl
      clear HDO HY
      go_wp2_with fail
      go_region_law (refine step_append_run rfl (.tmp 71) (.tmp 73) _ _ rfl _ _ rfl rfl _ _ HR.out ?_)
      all_goals (go_wp2_with fail; go_ret)
      all_goals rw [HZ.out]
      all_goals exact ⟨rfl, ⟨_, _, _, _, _, HS7.out.1⟩, HS7.out.2⟩
  | false =>
    have hYe : idx P.vars d.y = sentY P d := by
      have z1 : (d.kind == kNew) = false := beq_eq_false_iff_ne.2 (fun q => (beq_eq_false_iff_ne.1 hD1) ((toK.out _).2 q))
      have z2 : (d.kind == kFun) = false := beq_eq_false_iff_ne.2 (fun q => (beq_eq_false_iff_ne.1 hD2) ((toK.out _).2 q))
      unfold sentY
      rw [z1, z2]; rfl
    obtain ⟨Y, hYd⟩ : ∃ Y, Y = idx P.vars d.y := ⟨_, rfl⟩
    have K1 : Hid (Calls Tryz.prog 198 #[.string b_y, .pointer (some ⟨nb, 0, none⟩)] wd fun e w' => e = .returned (.int .i64 Y) ∧ w' = wd) := by
      rw [HBK.out.2.2, hYd]; exact finder1_any P.vars d.y nb wd HSZ.out.2.1 (KN.out wd (Below.refl _ _))
    rw [← hYd] at hYe
    have HF0 : Hid (Full w (wd.setCell ⟨sb, 2, none⟩ (.int .i64 Y)) B bk X Y L sb (.slice pa L.length pc) ∧ Y = sentY P d) := ⟨full_set HM.out h4w hbc (Below.refl _ _), hYe⟩
    clear hYd hYe
    go_wp2_with fail
    refine K1.out.mono ?_
    rintro e w8 ⟨rfl, hw⟩
    obtain rfl := hw.symm
    clear hw
    go_upto_region 11 with fail
    obtain ⟨wt, hwt⟩ : ∃ wt, wt = wd.setCell ⟨sb, 2, none⟩ (.int .i64 Y) := ⟨_, rfl⟩
    have HF : Hid (Full w wt B bk X Y L sb (.slice pa L.length pc)) := by rw [hwt]; exact HF0.out.1
    have hYe : Hid (Y = sentY P d) := HF0.out.2
    rw [← hwt]
    clear hwt HF0
    clear hsb hbc toK hsw hsw2
    clear mk0 mk2 s2 f2 hD1 hD2 K1
    obtain ⟨hbl, hlow, hrow, hbel⟩ := HF.out
    have t0 : wt.cell? ⟨sb, 0, none⟩ = some (.string bk) := by rw [Lib.cell_of_heap hbl]; rfl
    have t1 : wt.cell? ⟨sb, 1, none⟩ = some (.int .i64 X) := by rw [Lib.cell_of_heap hbl]; rfl
    have t2 : wt.cell? ⟨sb, 2, none⟩ = some (.int .i64 Y) := by rw [Lib.cell_of_heap hbl]; rfl
    have t3 : wt.cell? ⟨sb, 3, none⟩ = some (.slice pa L.length pc) := by rw [Lib.cell_of_heap hbl]; rfl
    have hpw : pb < wt.heap.size := lt_of_cell (KP.out wt hbel)
    have e5 := KE5.out wt hbel
    have q2 := KP.out wt hbel
    have q2' := fun o => cell_keep (below1 wt o) q2
    have hY := KY.out Y hYe.out
    have HY : Hid (readStmtD P s = if X == -1 || Y == -1 || L.contains (-1) then (P, some 5) else ({ P with stmts := P.stmts ++ [sentS P d] }, none)) := hY
    have HDO : Hid (readStmtD P s = (P, some 5) → Does a B pb w wt (readStmtD P s) (.returned (.iface 231 (.pointer (some (a 5)))))) := KD.out wt hbel
    have HCC : Hid (Calls Tryz.prog 50 #[.slice pa L.length pc, .int .i64 (-1)] wt fun e w' => e = .returned (.bool (L.contains (-1))) ∧ w' = wt) := KC.out wt Y HF.out
    have HAA := KA.out wt Y HF.out hYe.out
    obtain ⟨D4, hD4⟩ : ∃ D, D = L.contains (-1) := ⟨_, rfl⟩
    rw [← hD4] at HY HCC
    obtain ⟨v', w7, hr0, d0, d1, ⟨xa, xn, xc, rfl⟩, hS, hBe⟩ := HAA
    have HS7 : Hid (St (w7.setCell ⟨pb, 2, none⟩ (.slice xa xn xc)) B pb { P with stmts := P.stmts ++ [sentS P d] } (.slice a1 m1 n1) (.slice a2 m2 n2) (.slice xa xn xc) ps (qs ++ [.slice pa L.length pc]) ∧ Below B w (w7.setCell ⟨pb, 2, none⟩ (.slice xa xn xc))) := ⟨hS, hBe⟩
    have HR : Hid ((Builtin.append_ #[41, 41] 41 #[.slice a3 m3 n3, .slice (some ⟨wt.heap.size, 0, none⟩) 1 1]).run Tryz.prog ((wt.alloc (.cells #[.string bk, .int .i64 X, .int .i64 Y, .slice pa L.length pc] 60)).drew) = .ok (.slice xa xn xc) w7) := hr0
    clear hr0 hS hBe hD4 hY hbl hrow KA KD KY KC KE5 KP KP2 KN HF HM
    by_cases hx1 : X = -1
    · subst hx1
      have HFF : Hid _ := HDO.out (by rw [HY.out]; rfl)
      clear HDO HR HS7 HCC HY
      go_wp2_with fail
      go_ret
      exact HFF.out
    have hx2 : (X == -1) = false := beq_eq_false_iff_ne.2 hx1
    by_cases hy1 : Y = -1
    · rw [hy1] at t2 HY HR
      have HFF : Hid _ := HDO.out (by rw [HY.out]; simp)
      clear HDO HR HS7 HCC HY
      go_wp2_with fail
      go_ret
      exact HFF.out
    have hy2 : (Y == -1) = false := beq_eq_false_iff_ne.2 hy1
    go_wp2_with fail
    refine HCC.out.mono ?_
    rintro e w6 ⟨rfl, hw⟩
    obtain rfl := hw.symm
    clear hw HCC
    cases D4 with
    | true =>
      have HFF : Hid _ := HDO.out (by rw [HY.out]; simp)
      clear HDO HR HS7 HY
      go_wp2_with fail
      go_ret
      exact HFF.out
    | false =>
      have HZ : Hid (readStmtD P s = ({ P with stmts := P.stmts ++ [sentS P d] }, none)) := by
        show readStmtD P s = _
        rw [HY.out, hx2, hy2]; rfl
      clear HDO HY
      go_wp2_with fail
      go_region_law (refine step_append_run rfl (.tmp 71) (.tmp 73) _ _ rfl _ _ rfl rfl _ _ HR.out ?_)
      all_goals (go_wp2_with fail; go_ret)
      all_goals rw [HZ.out]
      all_goals exact ⟨rfl, ⟨_, _, _, _, _, HS7.out.1⟩, HS7.out.2⟩
end Go.Proofs.YtakmmpbkojhmhaaGreatDoor

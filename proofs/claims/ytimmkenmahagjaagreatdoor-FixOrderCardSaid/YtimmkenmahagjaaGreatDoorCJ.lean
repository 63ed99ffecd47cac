/-
  Package cons: (Rule).Join, by a contract.
-/
import Derived.Test.YtimmkenmahagjaaGreatDoorCC
import Derived.Deep.RegionHeld3
namespace Go.Proofs.YtimmkenmahagjaaGreatDoor
open Go.RowKit Go.Extern.Stop Go.Stop Go.Extern

theorem below_alF {B : Nat} {w0 w : World} (hB : B ≤ w.heap.size) (h : Below B w0 w) (o : Obj) : Below B w0 (w.alloc o) := h.alloc hB o
set_option maxRecDepth 100000 in
set_option maxHeartbeats 8000000 in
theorem joinM_any {w0 w : World} {fb : Nat} {es : List Pair} {u : Value} (h : Found w w0.heap.size fb es u) (hw : Below w0.heap.size w0 w) (n : Nat) (fs : List FunD) (fv : Value) (hFn : IsFuns w0 fv fs) (r : RuleD) (av : Value) (ha : IsInts w0 av r.args) (kd : ByteArray) (hkd : kd.toList = r.kind) (o : Int) (ho0 : 0 ≤ o) (ho1 : o ≤ 1000000) (hn : n ≤ 1000000)
    (hoc : r.kind = kCall → ¬ o < (n : Int) → (o - n).toNat < fs.length) (hfp : ∀ i, i < fs.length → (fs.getD i default).params.length ≤ 1000) (hl : es.length ≤ 900000) (hl2 : r.args.length ≤ 1000000) :
    Calls Tryz.prog 111 #[.agg #[.string kd, .int .i64 r.a, .int .i64 r.b, .int .i64 r.stmt, av], .int .i64 (n : Int), fv, .int .i64 o, joinV fb] w fun e w' => JoinPost w0 w fb es (joinD n fs r o) e w' := by
  have hB := h.size
  have hk := rule_kinds r.kind
  rw [← hkd] at hk
  obtain ⟨ra, hra⟩ : ∃ z, z = r.a := ⟨_, rfl⟩
  obtain ⟨rb, hrb⟩ : ∃ z, z = r.b := ⟨_, rfl⟩
  have HLN : Hid (ra = r.a ∧ rb = r.b) := ⟨hra, hrb⟩
  have HRK : Hid (kd.toList = r.kind) := hkd
  rw [← hra, ← hrb]
  obtain ⟨W, hW⟩ : ∃ W, W = w.alloc (ruleBox kd ra rb r.stmt av) := ⟨_, rfl⟩
  have hBW : Below w.heap.size w W := by rw [hW]; exact below1 w _
  have HFB : Hid (W.heap[w.heap.size]? = some (ruleBox kd ra rb r.stmt av)) := by show _ = _; rw [hW]; exact heap_new w _
  have c0 : W.cell? ⟨w.heap.size, 0, none⟩ = some (.string kd) := by rw [Lib.cell_of_heap HFB.out]; rfl
  have c1 : W.cell? ⟨w.heap.size, 1, none⟩ = some (.int .i64 ra) := by rw [Lib.cell_of_heap HFB.out]; rfl
  have c2 : W.cell? ⟨w.heap.size, 2, none⟩ = some (.int .i64 rb) := by rw [Lib.cell_of_heap HFB.out]; rfl
  have c3 : W.cell? ⟨w.heap.size, 3, none⟩ = some (.int .i64 r.stmt) := by rw [Lib.cell_of_heap HFB.out]; rfl
  have c4 : W.cell? ⟨w.heap.size, 4, none⟩ = some av := by rw [Lib.cell_of_heap HFB.out]; rfl
  have HF : Hid (Found W w0.heap.size fb es u ∧ Below w0.heap.size w W ∧ KE w W ∧ Below w0.heap.size w0 w) := ⟨h.below hBW, hBW.mono hB, KE.of_below hBW, hw⟩
  clear h hw hra hrb hkd
  rcases hk with ⟨hK, g1, g2, g3⟩ | ⟨hK, g1, g2, g3⟩ | ⟨hK, g1, g2, g3⟩ | ⟨hK, g1, g2, g3⟩
  · by_cases hlt : o < (n : Int)
    · have HX : Hid (joinD n fs r o = [(o, rb)]) := by
        show _ = _
        unfold joinD
        rw [HRK.out] at hK
        rw [if_pos hK, if_pos hlt, HLN.out.2]
      clear hK
      have HJ : Hid (Calls Tryz.prog 80 #[.int .i64 o, .int .i64 rb, .pointer (some ⟨fb, 0, none⟩)] W fun e w' => JoinPost w0 W fb es [(o, rb)] e w') := join_any HF.out.1 (by omega) o rb
      go_enter Tryz.func111, Tryz.ntmps111
      go_upto_region 1 with fail
      rw [← hW]
      clear hW
      go_wp2_with (go_at_call 80; refine HJ.out.mono ?_; rintro e w2 ⟨rfl, u2, hF2, hb2, hk2⟩)
      refine bodyPost_end (results_none rfl _ _ _) rfl ?_
      exact ⟨rfl, u2, by rw [HX.out]; exact hF2, HF.out.2.1.trans hb2, HF.out.2.2.1.trans hk2⟩
    · have HX : Hid (joinD n fs r o = []) := by
        show _ = _
        unfold joinD
        rw [HRK.out] at hK
        rw [if_pos hK, if_neg hlt]
      clear hK
      go_enter Tryz.func111, Tryz.ntmps111
      go_upto_region 1 with fail
      rw [← hW]
      clear hW
      go_wp2_with fail
      refine bodyPost_end (results_none rfl _ _ _) rfl ?_
      exact ⟨rfl, u, by rw [HX.out, List.append_nil]; exact HF.out.1, HF.out.2.1, HF.out.2.2.1⟩
  · by_cases hlt : o < (n : Int)
    · have HX : Hid (joinD n fs r o = []) := by
        show _ = _
        unfold joinD
        rw [HRK.out] at hK
        rw [if_neg (by rw [hK]; decide), if_neg (by rw [hK]; decide), if_pos hK, if_pos hlt]
      clear hK
      go_enter Tryz.func111, Tryz.ntmps111
      go_upto_region 1 with fail
      rw [← hW]
      clear hW
      go_wp2_with fail
      refine bodyPost_end (results_none rfl _ _ _) rfl ?_
      exact ⟨rfl, u, by rw [HX.out, List.append_nil]; exact HF.out.1, HF.out.2.1, HF.out.2.2.1⟩
    · have hK' := hK
      rw [HRK.out] at hK'
      have hi := hoc hK' hlt
      obtain ⟨i, hie⟩ : ∃ i, i = (o - n).toNat := ⟨_, rfl⟩
      rw [← hie] at hi
      have hoi : o = (n : Int) + (i : Int) := by omega
      obtain ⟨f, hfe⟩ : ∃ f, f = fs.getD i default := ⟨_, rfl⟩
      have HX : Hid (joinD n fs r o = joinsF f r) := by
        show _ = _
        unfold joinD
        rw [if_neg (by rw [hK']; decide), if_neg (by rw [hK']; decide), if_pos hK', if_neg hlt, ← hie, hfe]
      obtain ⟨fa, fc, rfl, -, hfs⟩ := hFn
      obtain ⟨fbk, fo, rfl, pv, q0, q1, qp, q2⟩ := hfs i hi
      obtain ⟨hpi, pa, pc, rfl, -⟩ := qp
      have hfpi := hfp i hi
      rw [← hfe] at q0 q1 q2 hpi hfpi
      have KEn : Hid (∀ wx, Below w0.heap.size W wx → KE W wx → Found wx w0.heap.size fb es u → Calls Tryz.prog 135 #[.agg #[.string (S f.name), .slice pa f.params.length pc, .int .i64 f.ret], .agg #[.string kd, .int .i64 ra, .int .i64 rb, .int .i64 r.stmt, av], joinV fb] wx fun e w' => e = .returned (.tuple #[]) ∧ ∃ u', Found w' w0.heap.size fb (es ++ joinsF f r) u' ∧ Below w0.heap.size W w' ∧ KE W w') := fun wx hb hk hFx => by
        have := enter_any hFx ((HF.out.2.2.2.trans HF.out.2.1).trans hb) f _ hpi r av ha (by omega) hl2 (S f.name) kd
        rw [← HLN.out.1, ← HLN.out.2] at this
        exact this.mono fun e w' ⟨r1, u', r2, r3, r4⟩ => ⟨r1, u', r2, hb.trans r3, hk.trans r4⟩
      have hBw0 := HF.out.2.2.2.trans HF.out.2.1
      replace q0 := cell_keep hBw0 q0
      replace q1 := cell_keep hBw0 q1
      replace q2 := cell_keep hBw0 q2
      obtain ⟨nm, hnm⟩ : ∃ t, t = S f.name := ⟨_, rfl⟩
      obtain ⟨np, hnp⟩ : ∃ t, t = f.params.length := ⟨_, rfl⟩
      obtain ⟨z, hz⟩ : ∃ t, t = f.ret := ⟨_, rfl⟩
      obtain ⟨n2, hn2⟩ : ∃ t, t = fs.length := ⟨_, rfl⟩
      rw [← hnm] at q0 KEn
      rw [← hnp] at q1 KEn
      rw [← hz] at q2 KEn
      rw [← hn2]
      have hii : (i : Int) < n2 := by omega
      have hi0 : (0 : Int) ≤ i := by omega
      have hwr : IntKind.i64.wrap (o - (n : Int)) = (i : Int) := by rw [IntKind.wrap_i64]; omega
      have hox : ¬ o < (n : Int) := hlt
      have KX : Hid (∀ wx, Below w0.heap.size W wx → KE W wx → wx.cell? ⟨w.heap.size, 0, none⟩ = some (.string kd) ∧ wx.cell? ⟨w.heap.size, 1, none⟩ = some (.int .i64 ra) ∧ wx.cell? ⟨w.heap.size, 2, none⟩ = some (.int .i64 rb) ∧ wx.cell? ⟨w.heap.size, 3, none⟩ = some (.int .i64 r.stmt) ∧ wx.cell? ⟨w.heap.size, 4, none⟩ = some av ∧ wx.cell? ⟨fbk, fo + i * 3, none⟩ = some (.string nm) ∧ wx.cell? ⟨fbk, fo + i * 3 + 1, none⟩ = some (.slice pa np pc) ∧ wx.cell? ⟨fbk, fo + i * 3 + 2, none⟩ = some (.int .i64 z)) := fun wx hb hk => by
        have hx := hk _ _ _ _ HFB.out (by decide) (by decide)
        have h0 := hBw0.trans hb
        obtain ⟨b', o', e', pv', r0, r1, -, r2⟩ := hfs i hi
        cases e'
        rw [← hfe] at r0 r2
        refine ⟨?_, ?_, ?_, ?_, ?_, ?_, ?_, ?_⟩
        · rw [Lib.cell_of_heap hx]; rfl
        · rw [Lib.cell_of_heap hx]; rfl
        · rw [Lib.cell_of_heap hx]; rfl
        · rw [Lib.cell_of_heap hx]; rfl
        · rw [Lib.cell_of_heap hx]; rfl
        · rw [hnm]; exact cell_keep h0 r0
        · have e1 := cell_keep hBw0 r1
          rw [q1] at e1
          have := cell_keep h0 r1
          rw [← e1] at this
          exact this
        · rw [hz]; exact cell_keep h0 r2
      clear hoi
      clear hfs hK hK' hfe hnm hnp hz hn2 hpi hfpi q0 q1 q2 hoc hfp ha hie hi
      go_enter Tryz.func111, Tryz.ntmps111
      go_upto_region 1 with fail
      rw [← hW]
      clear hW
      go_upto_region 7 with fail
      go_region_held3 (fun wx => wx.cell? ⟨w.heap.size, 0, none⟩ = some (.string kd) ∧ wx.cell? ⟨w.heap.size, 1, none⟩ = some (.int .i64 ra) ∧ wx.cell? ⟨w.heap.size, 2, none⟩ = some (.int .i64 rb) ∧ wx.cell? ⟨w.heap.size, 3, none⟩ = some (.int .i64 r.stmt) ∧ wx.cell? ⟨w.heap.size, 4, none⟩ = some av ∧ wx.cell? ⟨fbk, fo + i * 3, none⟩ = some (.string nm) ∧ wx.cell? ⟨fbk, fo + i * 3 + 1, none⟩ = some (.slice pa np pc) ∧ wx.cell? ⟨fbk, fo + i * 3 + 2, none⟩ = some (.int .i64 z))
        ((go_split_ands; first | exact KX.out _ (Below.refl _ _) (KE.refl _) | exact KX.out _ (Below.refl _ _).drew (KE.refl _).drew | exact KX.out _ hb2 hk2 | exact KX.out _ hb2.drew hk2.drew))
        (first | (go_at_call 135; refine (KEn.out _ ?_ ?_ ?_).mono ?_; (first | exact Below.refl _ _ | exact (Below.refl _ _).drew); (first | exact KE.refl _ | exact (KE.refl _).drew); (first | exact HF.out.1 | exact HF.out.1.below (Below.refl _ _).drew); rintro e w2 ⟨rfl, u2, hF2, hb2, hk2⟩))
      go_wp2_with fail
      refine bodyPost_end (results_none rfl _ _ _) rfl ?_
      first
        | exact ⟨rfl, u2, by rw [HX.out]; exact hF2, HF.out.2.1.trans hb2, HF.out.2.2.1.trans hk2⟩
        | exact ⟨rfl, u2, by rw [HX.out]; exact hF2.below (Below.refl _ _).drew, (HF.out.2.1.trans hb2).drew, (HF.out.2.2.1.trans hk2).drew⟩
  · by_cases hlt : o < (n : Int)
    · have HX : Hid (joinD n fs r o = [(ra, o)]) := by
        show _ = _
        unfold joinD
        rw [HRK.out] at hK
        rw [if_neg (by rw [hK]; decide), if_pos hK, if_pos hlt, HLN.out.1]
      clear hK
      have HJ : Hid (Calls Tryz.prog 80 #[.int .i64 ra, .int .i64 o, .pointer (some ⟨fb, 0, none⟩)] W fun e w' => JoinPost w0 W fb es [(ra, o)] e w') := join_any HF.out.1 (by omega) ra o
      go_enter Tryz.func111, Tryz.ntmps111
      go_upto_region 1 with fail
      rw [← hW]
      clear hW
      go_wp2_with (go_at_call 80; refine HJ.out.mono ?_; rintro e w2 ⟨rfl, u2, hF2, hb2, hk2⟩)
      refine bodyPost_end (results_none rfl _ _ _) rfl ?_
      exact ⟨rfl, u2, by rw [HX.out]; exact hF2, HF.out.2.1.trans hb2, HF.out.2.2.1.trans hk2⟩
    · have HX : Hid (joinD n fs r o = []) := by
        show _ = _
        unfold joinD
        rw [HRK.out] at hK
        rw [if_neg (by rw [hK]; decide), if_pos hK, if_neg hlt]
      clear hK
      go_enter Tryz.func111, Tryz.ntmps111
      go_upto_region 1 with fail
      rw [← hW]
      clear hW
      go_wp2_with fail
      refine bodyPost_end (results_none rfl _ _ _) rfl ?_
      exact ⟨rfl, u, by rw [HX.out, List.append_nil]; exact HF.out.1, HF.out.2.1, HF.out.2.2.1⟩
  · have HX : Hid (joinD n fs r o = []) := by
      show _ = _
      unfold joinD
      rw [HRK.out] at hK
      rw [if_neg hK.1, if_neg hK.2.2, if_neg hK.2.1]
    clear hK
    go_enter Tryz.func111, Tryz.ntmps111
    go_upto_region 1 with fail
    rw [← hW]
    clear hW
    go_wp2_with fail
    refine bodyPost_end (results_none rfl _ _ _) rfl ?_
    exact ⟨rfl, u, by rw [HX.out, List.append_nil]; exact HF.out.1, HF.out.2.1, HF.out.2.2.1⟩
end Go.Proofs.YtimmkenmahagjaaGreatDoor

/-
  Package calls: what is asked of a program, plain; the functions that are made for it, by contracts.
-/
import Derived.Test.YteekjigaicmohaaGreatDoorXCM
import Derived.Test.YteekjigaicmohaaGreatDoorPIM
import Derived.Test.YteekjigaicmohaaGreatDoorXSM
import Derived.Test.YteekjigaicmohaaGreatDoorPZ8M
import Derived.BigQuiet
import Derived.Deep.RegionHeld3
import Derived.Laws.NewBlocks
import Derived.Deep.DeepCutAuto
import Derived.Test.YteekjigaicmohaaGreatDoorXTM
import Derived.Test.YteekjigaicmohaaGreatDoorXRM
namespace Go.Proofs.YteekjigaicmohaaGreatDoor
open Go.RowKit Go.Extern.Stop Go.Stop Go.Extern

/-- The nodes that a node may have the address of. -/
def ptrL (L : List (List Int)) (n : Int) : List Int := (setAt L n).filter fun o => decide (o < (L.length : Int))
/-- May so many arguments be handed to function f? -/
def fitsB (P : ProgD) (m : Nat) (f : Int) : Bool := decide (0 ≤ f) && decide ((P.funs.getD f.toNat default).params.length = m)
/-- The functions that a statement may call. -/
def calledL (P : ProgD) (L : List (List Int)) (s : StmtD) : List Int :=
  if s.kind = kCall then ((setAt L s.y).map fun o => o - (L.length : Int)).filter (fitsB P s.args.length) else []
/-- What calling any of these functions changes. -/
def callingL (P : ProgD) (x : Int) (fs : List Int) : List Int := if fs = [] then [] else x :: fs.flatMap fun f => (P.funs.getD f.toNat default).params
/-- What a statement may change. -/
def changedL (P : ProgD) (L : List (List Int)) (s : StmtD) : List Int :=
  if s.kind = kStore then ptrL L s.x else if s.kind = kCall then callingL P s.x (calledL P L s) else [s.x]
/-- Can a statement do nothing? -/
def idleL (P : ProgD) (L : List (List Int)) (s : StmtD) : Bool :=
  if s.kind = kLoad then decide ((ptrL L s.y).length = 0) else if s.kind = kStore then decide ((ptrL L s.x).length = 0) else if s.kind = kCall then decide ((calledL P L s).length = 0) else false
/-- The functions that are made: with the boxes that they are bound to. -/
abbrev ptrF (hb : Nat) : Value := .func (Fn.func 159) #[] #[.pointer (some ⟨hb, 0, none⟩)]
abbrev callF (hb pb : Nat) : Value := .func (Fn.func 116) #[] #[.pointer (some ⟨hb, 0, none⟩), .pointer (some ⟨pb, 0, none⟩)]
abbrev TStm : TypeId := 45
abbrev stmBox (kd : ByteArray) (x y : Int) (av : Value) : Obj := .cells #[.string kd, .int .i64 x, .int .i64 y, av] TStm (0, 0)

theorem isInts_cells {w : World} {v : Value} {zs : List Int} (h : IsInts w v zs) : ∃ a c, v = .slice a zs.length c ∧ ∀ j, j < zs.length → ∃ b o, a = some ⟨b, o, none⟩ ∧ w.cell? ⟨b, o + j, none⟩ = some (.int .i64 (zs.getD j 0)) := by
  rcases h with ⟨rfl, a, c, rfl⟩ | ⟨-, b, o, c, rfl, hc⟩
  · exact ⟨a, c, rfl, fun j hj => absurd hj (Nat.not_lt_zero _)⟩
  · exact ⟨_, c, rfl, fun j hj => ⟨b, o, rfl, hc j hj⟩⟩

set_option maxHeartbeats 4000000 in
theorem ptr1_any (L : List (List Int)) (hb n : Nat) (va : Option Addr) (vn vc : Nat) (w : World) (hn : n < L.length) (hm : (L.getD n []).length ≤ 1000000) (h : IsSets w (.slice va vn vc) L) (hx : w.cell? ⟨hb, 0, none⟩ = some (.slice va vn vc)) :
    Calls Tryz.prog 159 #[.int .i64 (n : Int), .pointer (some ⟨hb, 0, none⟩)] w fun e w' => ∃ xa xc, e = .returned (.slice xa (ptrL L n).length xc) ∧ IsInts w' (.slice xa (ptrL L n).length xc) (ptrL L n) ∧ Below w.heap.size w w' := by
  obtain ⟨va', vc', e', hr⟩ := h
  cases e'
  obtain ⟨b, o, x, rfl, hx1, hx2⟩ := hr n hn
  obtain ⟨xa, xc, rfl, hcs⟩ := isInts_cells hx2
  have hsa : setAt L (n : Int) = L.getD n [] := by unfold setAt; rw [Int.toNat_natCast]
  obtain ⟨zs, hzs⟩ : ∃ zs, zs = L.getD n [] := ⟨_, rfl⟩
  rw [← hzs] at hm hcs hx1 hsa
  obtain ⟨N, hN⟩ : ∃ N, N = L.length := ⟨_, rfl⟩
  rw [← hN] at hx hn
  obtain ⟨m, hm'⟩ : ∃ m, m = zs.length := ⟨_, rfl⟩
  rw [← hm'] at hm hcs hx1
  have HC : Hid (∀ j, j < m → ∃ b o, xa = some ⟨b, o, none⟩ ∧ w.cell? ⟨b, o + j, none⟩ = some (.int .i64 (zs.getD j 0))) := hcs
  have HN : Hid (m = zs.length ∧ ptrL L (n : Int) = zs.filter fun o => decide (o < (N : Int))) := ⟨hm', by unfold ptrL; rw [hsa, hN]⟩
  have hni : (n : Int) < N := by omega
  clear hcs hx2 hr hzs hsa hN hm'
  go_enter Tryz.func159, Tryz.ntmps159
  go_wp2_with fail
  go_loopw [4, 12] (fun u t wr => ∃ k : Nat, k ≤ m ∧ t = .int .i64 k ∧ wr.ownsRow w.heap.size 3 1 u ((zs.take k).filter fun o => decide (o < (N : Int))).length (((zs.take k).filter fun o => decide (o < (N : Int))).map intV) ∧ Below w.heap.size w wr) (fun _ t _ => (m - intOf t).toNat)
  case atStart => exact ⟨0, Nat.zero_le _, rfl, World.ownsRow_nil _ _ _ _, Below.refl _ _⟩
  case round =>
    obtain ⟨k, hk, rfl, ho, hB⟩ := hrel
    have HO : Hid (wr.ownsRow w.heap.size 3 1 u4 ((zs.take k).filter fun o => decide (o < (N : Int))).length (((zs.take k).filter fun o => decide (o < (N : Int))).map intV)) := ho
    have hlen : ((zs.take k).filter fun o => decide (o < (N : Int))).length ≤ k := Nat.le_trans (List.length_filter_le _ _) (List.length_take_le _ _)
    clear ho
    by_cases hlt : k < m
    · obtain ⟨b1, o1, rfl, e1⟩ := HC.out k hlt
      replace e1 := cell_keep hB e1
      have e0 := cell_keep hB hx
      obtain ⟨z, hze⟩ : ∃ z, z = zs.getD k 0 := ⟨_, rfl⟩
      rw [← hze] at e1
      have HZ : Hid (z = zs.getD k 0 ∧ k < zs.length) := ⟨hze, by rw [← HN.out.1]; exact hlt⟩
      clear hze hx hx1
      by_cases hzN : z < (N : Int)
      · obtain ⟨v', w2, hr, ho3, hB2⟩ := append_int wr w.heap.size u4 _ HO.out hB.size (by omega) z 40
        have HX : Hid (w2.ownsRow w.heap.size 3 1 v' ((zs.take (k + 1)).filter fun o => decide (o < (N : Int))).length (((zs.take (k + 1)).filter fun o => decide (o < (N : Int))).map intV) ∧ Below w.heap.size w w2) := by
          refine ⟨?_, hB.trans hB2⟩
          rw [filter_yes _ zs k HZ.out.2 (by rw [← HZ.out.1]; exact decide_eq_true hzN), ← HZ.out.1]
          exact ho3
        clear ho3 hB2
        go_wp2_with (at_builtin; refine Lib.wpList_append_run _ rfl _ _ _ _ rfl _ _ rfl rfl _ _ hr ?_)
        go_roundw
        case rel => exact ⟨k + 1, hlt, by go_num, HX.out.1, HX.out.2⟩
        case measure => simp [intOf]; omega
      · have HX : Hid (wr.ownsRow w.heap.size 3 1 u4 ((zs.take (k + 1)).filter fun o => decide (o < (N : Int))).length (((zs.take (k + 1)).filter fun o => decide (o < (N : Int))).map intV)) := by
          show World.ownsRow _ _ _ _ _ _ _
          rw [filter_no _ zs k HZ.out.2 (by rw [← HZ.out.1]; exact decide_eq_false hzN)]
          exact HO.out
        go_wp2_with fail
        go_roundw
        case rel => exact ⟨k + 1, hlt, by go_num, HX.out, hB⟩
        case measure => simp [intOf]; omega
    · go_wp2_with fail
      go_ret
      have hkn : k = zs.length := by rw [← HN.out.1]; omega
      have h1 := HO.out
      rw [hkn, List.take_length, ← HN.out.2] at h1
      obtain ⟨ya, yc, rfl⟩ := owns_form h1
      exact ⟨ya, yc, rfl, (isCap_of_owns h1).1, hB⟩
end Go.Proofs.YteekjigaicmohaaGreatDoor

/-
  Package calls: the functions that a statement may call, by contracts.
-/
namespace Go.Proofs.YteekjigaicmohaaGreatDoor
open Go.RowKit Go.Extern.Stop Go.Stop Go.Extern

theorem call1_none (P : ProgD) (L : List (List Int)) (s : StmtD) (kd : ByteArray) (hkd : kd.toList = s.kind) (hk : s.kind ≠ kCall) (av : Value) (hb pb : Nat) (w : World) :
    Calls Tryz.prog 116 #[.agg #[.string kd, .int .i64 s.x, .int .i64 s.y, av], .pointer (some ⟨hb, 0, none⟩), .pointer (some ⟨pb, 0, none⟩)] w fun e w' => ∃ xa xc, e = .returned (.slice xa (calledL P L s).length xc) ∧ w'.ownsRow w.heap.size 3 1 (.slice xa (calledL P L s).length xc) (calledL P L s).length ((calledL P L s).map intV) ∧ Below w.heap.size w w' := by
  have hl : calledL P L s = [] := by unfold calledL; rw [if_neg hk]
  rw [hl]
  have hk1 : (kd.toList == [99, 97, 108, 108]) = false := by rw [hkd]; exact beq_eq_false_iff_ne.2 hk
  clear hk hkd hl
  go_enter Tryz.func116, Tryz.ntmps116
  go_wp2_with fail
  go_ret
  exact ⟨none, 0, rfl, World.ownsRow_nil _ _ _ _, below1 w _⟩
theorem fits_iff {P : ProgD} {m : Nat} {f : Int} (i : Nat) (h : f = (i : Int)) : fitsB P m f = decide ((P.funs.getD i default).params.length = m) := by
  subst h
  unfold fitsB
  rw [Int.toNat_natCast, decide_eq_true (by omega), Bool.true_and]
theorem fits_neg {P : ProgD} {m : Nat} {f : Int} (h : ¬ 0 ≤ f) : fitsB P m f = false := by
  unfold fitsB
  rw [decide_eq_false h, Bool.false_and]
set_option maxRecDepth 100000 in
set_option maxHeartbeats 8000000 in
theorem call1_own (P : ProgD) (L : List (List Int)) (s : StmtD) (kd : ByteArray) (hkd : kd.toList = s.kind) (aa : Option Addr) (ac : Nat) (hb pb y : Nat) (hy : s.y = (y : Int)) (hyL : y < L.length) (va : Option Addr) (vn vc : Nat) (v1 v2 v3 : Value) (w : World)
    (hm : (L.getD y []).length ≤ 1000000) (hLm : L.length ≤ 1000000) (hin : ∀ o ∈ L.getD y [], 0 ≤ o ∧ o < (L.length : Int) + (P.funs.length : Int)) (hfl : P.funs.length ≤ 100000) (hfp : ∀ f ∈ P.funs, f.params.length ≤ 100000) (hal : s.args.length ≤ 100000)
    (h : IsSets w (.slice va vn vc) L) (hx : w.cell? ⟨hb, 0, none⟩ = some (.slice va vn vc)) (hF : IsFuns w v2 P.funs) (hp : Box3 w pb v1 v2 v3) :
    Calls Tryz.prog 116 #[.agg #[.string kd, .int .i64 s.x, .int .i64 s.y, .slice aa s.args.length ac], .pointer (some ⟨hb, 0, none⟩), .pointer (some ⟨pb, 0, none⟩)] w fun e w' => ∃ xa xc, e = .returned (.slice xa (calledL P L s).length xc) ∧ w'.ownsRow w.heap.size 3 1 (.slice xa (calledL P L s).length xc) (calledL P L s).length ((calledL P L s).map intV) ∧ Below w.heap.size w w' := by
  by_cases hk : s.kind = kCall
  case neg => exact call1_none P L s kd hkd hk _ hb pb w
  case pos =>
  obtain ⟨fa, fc, rfl, -, hfs⟩ := hF
  obtain ⟨va', vc', e', hr⟩ := h
  cases e'
  obtain ⟨b, o, x, rfl, hx1, hx2⟩ := hr y hyL
  obtain ⟨xa, xc, rfl, hcs⟩ := isInts_cells hx2
  have hk1 : (kd.toList == [99, 97, 108, 108]) = true := by rw [hkd, hk]; decide
  have hsa : setAt L s.y = L.getD y [] := by unfold setAt; rw [hy, Int.toNat_natCast]
  obtain ⟨zs, hzs⟩ : ∃ zs, zs = L.getD y [] := ⟨_, rfl⟩
  rw [← hzs] at hm hcs hx1 hsa hin
  obtain ⟨N, hN⟩ : ∃ N, N = L.length := ⟨_, rfl⟩
  rw [← hN] at hx hyL hin hLm
  obtain ⟨m, hm'⟩ : ∃ m, m = zs.length := ⟨_, rfl⟩
  rw [← hm'] at hm hcs hx1
  obtain ⟨na, hna⟩ : ∃ m, m = s.args.length := ⟨_, rfl⟩
  obtain ⟨nf, hnf⟩ : ∃ m, m = P.funs.length := ⟨_, rfl⟩
  obtain ⟨fz, hfz⟩ : ∃ l, l = zs.map fun o => o - (N : Int) := ⟨_, rfl⟩
  obtain ⟨sx, hsx⟩ : ∃ m, m = s.x := ⟨_, rfl⟩
  rw [hy, ← hsx, ← hna]
  rw [← hna] at hal
  rw [← hnf] at hfl hin hp
  have HC : Hid (∀ j, j < m → ∃ b o, xa = some ⟨b, o, none⟩ ∧ w.cell? ⟨b, o + j, none⟩ = some (.int .i64 (zs.getD j 0)) ∧ 0 ≤ zs.getD j 0 ∧ zs.getD j 0 < (N : Int) + (nf : Int) ∧ fz.getD j 0 = zs.getD j 0 - (N : Int)) := fun j hj => by
    obtain ⟨b, o, q1, q2⟩ := hcs j hj
    have hjl : j < zs.length := by rw [← hm']; exact hj
    have hmem : zs.getD j 0 ∈ zs := by simp [List.getD, hjl]
    obtain ⟨q3, q4⟩ := hin _ hmem
    exact ⟨b, o, q1, q2, q3, q4, by rw [hfz]; simp [List.getD, hjl]⟩
  have HF : Hid (∀ i, i < nf → ∃ b o, fa = some ⟨b, o, none⟩ ∧ ∃ pa pc, w.cell? ⟨b, o + i * 3 + 1, none⟩ = some (.slice pa (P.funs.getD i default).params.length pc) ∧ (P.funs.getD i default).params.length ≤ 100000) := fun i hi => by
    have hil : i < P.funs.length := by rw [← hnf]; exact hi
    obtain ⟨b, o, q1, pv, -, q3, ⟨-, pa, pc, rfl, -⟩, -⟩ := hfs i hil
    exact ⟨b, o, q1, pa, pc, q3, hfp _ (by simp [List.getD, hil])⟩
  have HN : Hid (m = fz.length ∧ calledL P L s = fz.filter (fitsB P na)) := ⟨by rw [hfz, List.length_map, hm'], by unfold calledL; rw [if_pos hk, hsa, hfz, hna, hN]⟩
  have hni : (y : Int) < N := by omega
  have HP : Hid (Box3 w pb v1 (.slice fa nf fc) v3) := hp
  clear hcs hx2 hr hzs hsa hN hm' hna hnf hfz hsx hy hfs hfp hin hkd hk hp
  obtain ⟨W, hW⟩ : ∃ W, W = w.alloc (stmBox kd sx y (.slice aa na ac)) := ⟨_, rfl⟩
  have hBW : Below w.heap.size w W := by rw [hW]; exact below1 w _
  have HB : Hid (W.heap[w.heap.size]? = some (stmBox kd sx y (.slice aa na ac))) := by show _ = _; rw [hW]; exact heap_new w _
  have c0 : W.cell? ⟨w.heap.size, 0, none⟩ = some (.string kd) := by rw [Lib.cell_of_heap HB.out]; rfl
  have c2 : W.cell? ⟨w.heap.size, 2, none⟩ = some (.int .i64 y) := by rw [Lib.cell_of_heap HB.out]; rfl
  have c3 : W.cell? ⟨w.heap.size, 3, none⟩ = some (.slice aa na ac) := by rw [Lib.cell_of_heap HB.out]; rfl
  replace hx := cell_keep hBW hx
  replace hx1 := cell_keep hBW hx1
  go_enter Tryz.func116, Tryz.ntmps116
  go_upto_region 1 with fail
  rw [← hW]
  clear hW
  go_wp2_with fail
  clear c0 c2 hx1
  go_loopw [5, 18] (fun u t wr => ∃ k : Nat, k ≤ m ∧ t = .int .i64 k ∧ wr.ownsRow W.heap.size 3 1 u ((fz.take k).filter (fitsB P na)).length (((fz.take k).filter (fitsB P na)).map intV) ∧ Below W.heap.size W wr) (fun _ t _ => (m - intOf t).toNat)
  case atStart => exact ⟨0, Nat.zero_le _, rfl, World.ownsRow_nil _ _ _ _, Below.refl _ _⟩
  case round =>
    obtain ⟨k, hk, rfl, ho, hB⟩ := hrel
    have HO : Hid (wr.ownsRow W.heap.size 3 1 u5 ((fz.take k).filter (fitsB P na)).length (((fz.take k).filter (fitsB P na)).map intV)) := ho
    have hlen : ((fz.take k).filter (fitsB P na)).length ≤ k := Nat.le_trans (List.length_filter_le _ _) (List.length_take_le _ _)
    have hBw : Below w.heap.size w wr := hBW.trans (hB.mono hBW.size)
    clear ho
    by_cases hlt : k < m
    · obtain ⟨b1, o1, rfl, e1, g1, g2, g3⟩ := HC.out k hlt
      replace e1 := cell_keep hBw e1
      have e0 := cell_keep hB hx
      have e3 := cell_keep hB c3
      obtain ⟨p0, p1, p2⟩ := HP.out.below hBw
      obtain ⟨z, hze⟩ : ∃ z, z = zs.getD k 0 := ⟨_, rfl⟩
      rw [← hze] at e1 g1 g2 g3
      obtain ⟨d, hd⟩ : ∃ d, d = z - (N : Int) := ⟨_, rfl⟩
      rw [← hd] at g3
      have hwr : IntKind.i64.wrap (z - (N : Int)) = d := by rw [IntKind.wrap_i64]; omega
      have HZ : Hid (fz.getD k 0 = d ∧ k < fz.length) := ⟨g3, by rw [← HN.out.1]; exact hlt⟩
      have hdn : d < (nf : Int) := by omega
      clear hze g3 hx c3 g1 g2 hd
      by_cases hd0 : (0 : Int) ≤ d
      · obtain ⟨i, rfl⟩ : ∃ i : Nat, d = (i : Int) := ⟨d.toNat, by omega⟩
        obtain ⟨b2, o2, rfl, pa, pc, e4, hpl⟩ := HF.out i (by omega)
        replace e4 := cell_keep hBw e4
        have hfit := fits_iff (P := P) (m := na) (f := (i : Int)) i rfl
        obtain ⟨np, hnp⟩ : ∃ np, np = (P.funs.getD i default).params.length := ⟨_, rfl⟩
        rw [← hnp] at e4 hpl hfit
        have HFT : Hid (fitsB P na (i : Int) = decide (np = na)) := hfit
        clear hnp hfit
        by_cases hnn : np = na
        · subst hnn
          have KA : Hid (∀ q, ∃ v' w2, (Builtin.append_ #[40, 40] 40 #[u5, .slice (some ⟨(wr.drewN q).heap.size, 0, none⟩) 1 1]).run Tryz.prog ((wr.drewN q).alloc (.cells #[.int .i64 (i : Int)] 3)) = .ok v' w2 ∧ w2.ownsRow W.heap.size 3 1 v' ((fz.take (k + 1)).filter (fitsB P np)).length (((fz.take (k + 1)).filter (fitsB P np)).map intV) ∧ Below W.heap.size W w2) := fun q => by
            have ho : (wr.drewN q).ownsRow W.heap.size 3 1 u5 ((fz.take k).filter (fitsB P np)).length (((fz.take k).filter (fitsB P np)).map intV) := HO.out
            obtain ⟨v', w2, hr, ho3, hB2⟩ := append_int (wr.drewN q) W.heap.size u5 _ ho hB.size (by omega) (i : Int) 40
            refine ⟨v', w2, hr, ?_, (below_drewN hB q).trans hB2⟩
            rw [filter_yes _ fz k HZ.out.2 (by rw [HZ.out.1, HFT.out]; exact decide_eq_true rfl), HZ.out.1]
            exact ho3
          go_upto_region 8 with fail
          go_quiet (fail)
          obtain ⟨v', w2, hr, ho3, hB2⟩ := KA.out nq
          have HX : Hid (w2.ownsRow W.heap.size 3 1 v' ((fz.take (k + 1)).filter (fitsB P np)).length (((fz.take (k + 1)).filter (fitsB P np)).map intV) ∧ Below W.heap.size W w2) := ⟨ho3, hB2⟩
          clear ho3 hB2
          go_wp2_with (at_builtin; refine Lib.wpList_append_run _ rfl _ _ _ _ rfl _ _ rfl rfl _ _ hr ?_)
          go_roundw
          case rel => exact ⟨k + 1, hlt, by go_num, HX.out.1, HX.out.2⟩
          case measure => simp [intOf]; omega
        · have HX : Hid (wr.ownsRow W.heap.size 3 1 u5 ((fz.take (k + 1)).filter (fitsB P na)).length (((fz.take (k + 1)).filter (fitsB P na)).map intV)) := by
            show World.ownsRow _ _ _ _ _ _ _
            rw [filter_no _ fz k HZ.out.2 (by rw [HZ.out.1, HFT.out]; exact decide_eq_false hnn)]
            exact HO.out
          have hd : decide ((np : Int) = (na : Int)) = false := decide_eq_false (by omega)
          go_upto_region 8 with fail
          go_quiet (fail)
          go_wp2_with fail
          go_roundw
          case rel => exact ⟨k + 1, hlt, by go_num, HX.out, below_drewN hB _⟩
          case measure => simp [intOf]; omega
      · have HX : Hid (wr.ownsRow W.heap.size 3 1 u5 ((fz.take (k + 1)).filter (fitsB P na)).length (((fz.take (k + 1)).filter (fitsB P na)).map intV)) := by
          show World.ownsRow _ _ _ _ _ _ _
          rw [filter_no _ fz k HZ.out.2 (by rw [HZ.out.1]; exact fits_neg hd0)]
          exact HO.out
        have hdd : decide ((0 : Int) ≤ d) = false := decide_eq_false hd0
        go_upto_region 8 with fail
        go_quiet (fail)
        go_wp2_with fail
        go_roundw
        case rel => exact ⟨k + 1, hlt, by go_num, HX.out, below_drewN hB _⟩
        case measure => simp [intOf]; omega
    · go_wp2_with fail
      go_ret
      have hkn : k = fz.length := by rw [← HN.out.1]; omega
      have h1 := HO.out
      rw [hkn, List.take_length, ← HN.out.2] at h1
      obtain ⟨ya, yc, rfl⟩ := owns_form h1
      exact ⟨ya, yc, rfl, owns_mono h1 hBW.size, hBw⟩
theorem call1_any (P : ProgD) (L : List (List Int)) (s : StmtD) (kd : ByteArray) (hkd : kd.toList = s.kind) (aa : Option Addr) (ac : Nat) (hb pb y : Nat) (hy : s.y = (y : Int)) (hyL : y < L.length) (va : Option Addr) (vn vc : Nat) (v1 v2 v3 : Value) (w : World)
    (hm : (L.getD y []).length ≤ 1000000) (hLm : L.length ≤ 1000000) (hin : ∀ o ∈ L.getD y [], 0 ≤ o ∧ o < (L.length : Int) + (P.funs.length : Int)) (hfl : P.funs.length ≤ 100000) (hfp : ∀ f ∈ P.funs, f.params.length ≤ 100000) (hal : s.args.length ≤ 100000)
    (h : IsSets w (.slice va vn vc) L) (hx : w.cell? ⟨hb, 0, none⟩ = some (.slice va vn vc)) (hF : IsFuns w v2 P.funs) (hp : Box3 w pb v1 v2 v3) :
    Calls Tryz.prog 116 #[.agg #[.string kd, .int .i64 s.x, .int .i64 s.y, .slice aa s.args.length ac], .pointer (some ⟨hb, 0, none⟩), .pointer (some ⟨pb, 0, none⟩)] w fun e w' => ∃ xa xc, e = .returned (.slice xa (calledL P L s).length xc) ∧ IsInts w' (.slice xa (calledL P L s).length xc) (calledL P L s) ∧ Below w.heap.size w w' :=
  (call1_own P L s kd hkd aa ac hb pb y hy hyL va vn vc v1 v2 v3 w hm hLm hin hfl hfp hal h hx hF hp).mono fun _ _ ⟨xa, xc, h1, h2, h3⟩ => ⟨xa, xc, h1, (isCap_of_owns h2).1, h3⟩
end Go.Proofs.YteekjigaicmohaaGreatDoor

/-
  Package calls: the functions that are made, with the boxes that they are bound to.
-/
namespace Go.Proofs.YteekjigaicmohaaGreatDoor
open Go.RowKit Go.Extern.Stop Go.Stop Go.Extern

attribute [local go_sem] Nat.lt_add_one
theorem keep3Y {w0 w : World} {p0 p1 p2 : Addr} {v0 v1 v2 : Value} (k0 : w0.cell? p0 = some v0) (k1 : w0.cell? p1 = some v1) (k2 : w0.cell? p2 = some v2) (hb : Below w0.heap.size w0 w) : Below w0.heap.size w0 w ∧ w.cell? p0 = some v0 ∧ w.cell? p1 = some v1 ∧ w.cell? p2 = some v2 :=
  ⟨hb, cell_keep hb k0, cell_keep hb k1, cell_keep hb k2⟩
theorem below_alY {w0 w : World} (h : Below w0.heap.size w0 w) (o : Obj) : Below w0.heap.size w0 (w.alloc o) := h.alloc h.size o
theorem below_setY {w0 w : World} {b i : Nat} {x : Value} (h : Below w0.heap.size w0 w) (hb : w0.heap.size ≤ b) : Below w0.heap.size w0 (w.setCell ⟨b, i, none⟩ x) := h.setCell hb x
abbrev hasBox (hv : Value) : Obj := .cells #[hv] 36 (0, 0)
abbrev prgBox (v1 v2 v3 : Value) : Obj := .cells #[v1, v2, v3] 26 (0, 0)
theorem pointedBy_any (va : Option Addr) (vn vc : Nat) (w : World) : Calls Tryz.prog 120 #[.slice va vn vc] w fun e w' => e = .returned (ptrF w.heap.size) ∧ w' = w.alloc (hasBox (.slice va vn vc)) := by
  go_enter Tryz.func120, Tryz.ntmps120
  go_wp2_with fail
  go_ret
  exact ⟨rfl, rfl⟩
theorem calledBy_any (v1 v2 v3 : Value) (va : Option Addr) (vn vc : Nat) (w : World) : Calls Tryz.prog 70 #[.agg #[v1, v2, v3], .slice va vn vc] w fun e w' => e = .returned (callF (w.heap.size + 1) w.heap.size) ∧ w' = (w.alloc (prgBox v1 v2 v3)).alloc (hasBox (.slice va vn vc)) := by
  go_enter Tryz.func70, Tryz.ntmps70
  go_wp2_with fail
  go_ret
  exact ⟨rfl, rfl⟩
/-- Two boxes that hold the functions that ask of a program and an answer. -/
def Asks (w : World) (b5 b6 : Nat) (hv v1 v2 v3 : Value) : Prop :=
  ∃ hb h2 p2, w.cell? ⟨b5, 0, none⟩ = some (ptrF hb) ∧ w.cell? ⟨b6, 0, none⟩ = some (callF h2 p2) ∧ w.cell? ⟨hb, 0, none⟩ = some hv ∧ w.cell? ⟨h2, 0, none⟩ = some hv ∧ Box3 w p2 v1 v2 v3
theorem Asks.below {w w' : World} {b5 b6 : Nat} {hv v1 v2 v3 : Value} (h : Asks w b5 b6 hv v1 v2 v3) (hB : Below w.heap.size w w') : Asks w' b5 b6 hv v1 v2 v3 := by
  obtain ⟨hb, h2, p2, q1, q2, q3, q4, q5⟩ := h
  exact ⟨hb, h2, p2, cell_keep hB q1, cell_keep hB q2, cell_keep hB q3, cell_keep hB q4, q5.below hB⟩
set_option maxRecDepth 100000 in
set_option maxHeartbeats 32000000 in
theorem changedBy_any (a1 a2 a3 : Option Addr) (n1 n2 n3 c1 c2 c3 : Nat) (va : Option Addr) (vn vc : Nat) (w : World) :
    Calls Tryz.prog 74 #[.agg #[.slice a1 n1 c1, .slice a2 n2 c2, .slice a3 n3 c3], .slice va vn vc] w fun e w' => ∃ b5 b6 pb, e = .returned (.func (Fn.func 121) #[] #[.pointer (some ⟨b5, 0, none⟩), .pointer (some ⟨pb, 0, none⟩), .pointer (some ⟨b6, 0, none⟩)]) ∧ Asks w' b5 b6 (.slice va vn vc) (.slice a1 n1 c1) (.slice a2 n2 c2) (.slice a3 n3 c3) ∧ Box3 w' pb (.slice a1 n1 c1) (.slice a2 n2 c2) (.slice a3 n3 c3) ∧ Below w.heap.size w w' := by
  obtain ⟨W, hW⟩ : ∃ W, W = w.alloc (prgBox (.slice a1 n1 c1) (.slice a2 n2 c2) (.slice a3 n3 c3)) := ⟨_, rfl⟩
  have hBW : Below w.heap.size w W := by rw [hW]; exact below1 w _
  have HX : Hid (Box3 W w.heap.size (.slice a1 n1 c1) (.slice a2 n2 c2) (.slice a3 n3 c3)) := by show Box3 W _ _ _ _; rw [hW]; exact box3_new w _ _ _ _
  obtain ⟨p0, p1, p2⟩ := HX.out
  go_enter Tryz.func74, Tryz.ntmps74
  go_upto_region 1 with fail
  rw [← hW]
  clear hW
  obtain ⟨pb, hpb⟩ : ∃ b, b = w.heap.size := ⟨_, rfl⟩
  rw [← hpb] at HX p0 p1 p2 ⊢
  have HPB : Hid (pb = w.heap.size) := hpb
  clear hpb
  go_cut [5, 6] (fun s5 s6 wx => ∃ b5 b6, s5 = .pointer (some ⟨b5, 0, none⟩) ∧ s6 = .pointer (some ⟨b6, 0, none⟩) ∧ Asks wx b5 b6 (.slice va vn vc) (.slice a1 n1 c1) (.slice a2 n2 c2) (.slice a3 n3 c3) ∧ Below W.heap.size W wx)
  case first =>
    go_region_held3 (fun wx => Below W.heap.size W wx ∧ wx.cell? ⟨pb, 0, none⟩ = some (.slice a1 n1 c1) ∧ wx.cell? ⟨pb, 1, none⟩ = some (.slice a2 n2 c2) ∧ wx.cell? ⟨pb, 2, none⟩ = some (.slice a3 n3 c3))
      ((go_split_ands; refine keep3Y p0 p1 p2 ?_; repeat (with_reducible first | assumption | exact Below.refl _ _ | refine Below.drew ?_ | refine below_alY ?_ _ | refine below_setY ?_ (by (try simp); try omega))))
      (first
        | (go_at_call 120; refine (pointedBy_any va vn vc _).mono ?_; rintro e w1 ⟨rfl, rfl⟩)
        | (go_at_call 70; refine (calledBy_any (.slice a1 n1 c1) (.slice a2 n2 c2) (.slice a3 n3 c3) va vn vc _).mono ?_; rintro e w1 ⟨rfl, rfl⟩))
    all_goals (go_wp2_with fail; go_meet)
    all_goals
      refine ⟨_, _, rfl, rfl, ?_, ?_⟩
    all_goals first
      | ((repeat (with_reducible first | exact Below.refl _ _ | refine Below.drew ?_ | refine below_alY ?_ _)); done)
      | (apply Exists.intro; apply Exists.intro; apply Exists.intro
         refine ⟨?_, ?_, ?_, ?_, ?_, ?_, ?_⟩ <;> repeat (first | rw [World.cell?_drew] | (refine (World.cell?_alloc_at _ _ _ _ ?_).trans rfl; (simp <;> omega); done) | (refine (World.cell?_alloc_past _ _ _ ?_).trans ?_; (focus (simp <;> omega))) | fail))
  case rest =>
  obtain ⟨b5, b6, rfl, rfl, hA, hb⟩ := hcut
  have HA : Hid (Asks wc b5 b6 (.slice va vn vc) (.slice a1 n1 c1) (.slice a2 n2 c2) (.slice a3 n3 c3) ∧ Box3 wc pb (.slice a1 n1 c1) (.slice a2 n2 c2) (.slice a3 n3 c3) ∧ Below w.heap.size w wc) := ⟨hA, HX.out.below hb, hBW.trans (hb.mono hBW.size)⟩
  clear hA hb
  go_wp2_with fail
  go_ret
  exact ⟨b5, b6, pb, rfl, HA.out⟩
end Go.Proofs.YteekjigaicmohaaGreatDoor

/-
  Package calls: what calling changes, what a statement changes, whether it is idle: by contracts.
-/
namespace Go.Proofs.YteekjigaicmohaaGreatDoor
open Go.RowKit Go.Extern.Stop Go.Stop Go.Extern

theorem mem_getDY {α : Type} (d : α) {l : List α} {k : Nat} (h : k < l.length) : l.getD k d ∈ l := by simp [List.getD, h]
theorem own_one (w : World) (x : Int) : (w.alloc (.cells #[.int .i64 x] 3)).ownsRow w.heap.size 3 1 (.slice (some ⟨w.heap.size, 0, none⟩) 1 1) 1 ([x].map (Value.int .i64)) :=
  ⟨by simp, Or.inr ⟨w.heap.size, 1, #[.int .i64 x], rfl, Nat.le_refl _, heap_new w _, Nat.le_refl _, by unfold maxLen; omega, rfl, rfl⟩⟩
theorem flat_takeY {α β : Type} (l : List α) (d : α) (g : α → List β) (k : Nat) (h : k < l.length) : (l.take (k + 1)).flatMap g = (l.take k).flatMap g ++ g (l.getD k d) := by
  rw [take_snoc l d k h, List.flatMap_append, List.flatMap_singleton]
set_option maxRecDepth 100000 in
set_option maxHeartbeats 8000000 in
theorem calling_any (P : ProgD) (x : Int) (fs : List Int) (fa : Option Addr) (fc : Nat) (v1 v2 v3 : Value) (w : World) (hfs : ∀ f ∈ fs, 0 ≤ f ∧ f < (P.funs.length : Int)) (hn : fs.length ≤ 1000) (hfp : ∀ f ∈ P.funs, f.params.length ≤ 1000)
    (hi : IsInts w (.slice fa fs.length fc) fs) (hF : IsFuns w v2 P.funs) (h1 : ∃ a n c, v1 = .slice a n c) (h3 : ∃ a n c, v3 = .slice a n c) :
    Calls Tryz.prog 122 #[.agg #[v1, v2, v3], .int .i64 x, .slice fa fs.length fc] w fun e w' => ∃ xa xc, e = .returned (.slice xa (callingL P x fs).length xc) ∧ IsInts w' (.slice xa (callingL P x fs).length xc) (callingL P x fs) ∧ Below w.heap.size w w' := by
  obtain ⟨e1, e2, e3, rfl⟩ := h1
  obtain ⟨e4, e5, e6, rfl⟩ := h3
  obtain ⟨ga, gc, rfl, -, hF⟩ := hF
  obtain ⟨fa', fc', e', hcs⟩ := isInts_cells hi
  cases e'
  obtain ⟨nf, hnf⟩ : ∃ m, m = P.funs.length := ⟨_, rfl⟩
  obtain ⟨n, hnn⟩ : ∃ m, m = fs.length := ⟨_, rfl⟩
  obtain ⟨p, hp⟩ : ∃ p : Int → List Int, p = fun f => (P.funs.getD f.toNat default).params := ⟨_, rfl⟩
  have HN : Hid (n = fs.length ∧ (n ≠ 0 → callingL P x fs = x :: fs.flatMap p) ∧ (n = 0 → callingL P x fs = [])) := ⟨hnn, fun h => by
    unfold callingL
    rw [if_neg (fun q => h (by rw [hnn, q]; rfl)), hp], fun h => by
    unfold callingL
    rw [if_pos (List.eq_nil_of_length_eq_zero (by omega))]⟩
  have HC : Hid (∀ k, k < n → ∃ b o i b2 o2 pa pc zs, fa = some ⟨b, o, none⟩ ∧ w.cell? ⟨b, o + k, none⟩ = some (.int .i64 ((i : Nat) : Int)) ∧ i < nf ∧ ga = some ⟨b2, o2, none⟩ ∧ w.cell? ⟨b2, o2 + i * 3 + 1, none⟩ = some (.slice pa zs.length pc) ∧ IsInts w (.slice pa zs.length pc) zs ∧ zs.length ≤ 1000 ∧ p (fs.getD k 0) = zs) := fun k hk => by
    obtain ⟨b, o, q1, q2⟩ := hcs k (by rw [← hnn]; exact hk)
    have hm : fs.getD k 0 ∈ fs := by
      have : k < fs.length := by rw [← hnn]; exact hk
      simp [List.getD, this]
    obtain ⟨q3, q4⟩ := hfs _ hm
    have hil : (fs.getD k 0).toNat < P.funs.length := by omega
    obtain ⟨b2, o2, q5, pv, -, q6, ⟨q7, pa, pc, rfl, -⟩, -⟩ := hF _ hil
    refine ⟨b, o, (fs.getD k 0).toNat, b2, o2, pa, pc, _, q1, ?_, by omega, q5, q6, q7, hfp _ (mem_getDY _ hil), by rw [hp]⟩
    rw [Int.toNat_of_nonneg q3]
    exact q2
  rw [← hnf]
  rw [← hnn] at hn ⊢
  have HPL : Hid (∀ k, k ≤ n → ((fs.take k).flatMap p).length ≤ 1000000) := fun k hk => by
    have := flat_len (fs.take k) p 1000 (fun f hf => by
      rw [hp]
      by_cases hil : f.toNat < P.funs.length
      · exact hfp _ (mem_getDY _ hil)
      · show (P.funs.getD f.toNat default).params.length ≤ 1000
        rw [show P.funs.getD f.toNat default = default by simp [List.getD, hil]]
        exact Nat.zero_le _)
    have h2 := List.length_take_le k fs
    have h3 : (fs.take k).length * 1000 ≤ 1000 * 1000 := Nat.mul_le_mul (by omega) (Nat.le_refl _)
    omega
  clear hcs hF hfs hi hnf hnn hfp hp
  obtain ⟨W, hW⟩ : ∃ W, W = w.alloc (prgBox (.slice e1 e2 e3) (.slice ga nf gc) (.slice e4 e5 e6)) := ⟨_, rfl⟩
  have hBW : Below w.heap.size w W := by rw [hW]; exact below1 w _
  have HX : Hid (Box3 W w.heap.size (.slice e1 e2 e3) (.slice ga nf gc) (.slice e4 e5 e6)) := by show Box3 W _ _ _ _; rw [hW]; exact box3_new w _ _ _ _
  by_cases h0 : n = 0
  · have HN0 : Hid (callingL P x fs = []) := HN.out.2.2 h0
    subst h0
    go_enter Tryz.func122, Tryz.ntmps122
    go_upto_region 1 with fail
    rw [← hW]
    clear hW
    go_wp2_with fail
    go_ret
    refine ⟨none, 0, ?_, ?_, hBW⟩
    · rw [HN0.out]; rfl
    · rw [HN0.out]; exact IsInts.nil _ _ _
  · have hni : ¬ (n : Int) = 0 := by omega
    have HNZ : Hid (callingL P x fs = x :: fs.flatMap p) := HN.out.2.1 h0
    clear h0
    have HO0 : Hid ((W.alloc (.cells #[.int .i64 x] 3)).ownsRow W.heap.size 3 1 (.slice (some ⟨W.heap.size, 0, none⟩) 1 1) 1 ([x].map (Value.int .i64))) := own_one W x
    go_enter Tryz.func122, Tryz.ntmps122
    go_upto_region 1 with fail
    rw [← hW]
    clear hW
    go_wp2_with fail
    rw [show ((n : Int) == 0) = false from beq_eq_false_iff_ne.2 hni]
    clear hni
    go_loopw [7, 17] (fun u t wr => ∃ k : Nat, k ≤ n ∧ t = .int .i64 k ∧ wr.ownsRow W.heap.size 3 1 u (x :: (fs.take k).flatMap p).length ((x :: (fs.take k).flatMap p).map (Value.int .i64)) ∧ Below W.heap.size W wr) (fun _ t _ => (n - intOf t).toNat)
    case atStart => exact ⟨0, Nat.zero_le _, rfl, HO0.out, below1 W _⟩
    case round =>
      obtain ⟨k, hk, rfl, ho, hB⟩ := hrel
      have HO : Hid (wr.ownsRow W.heap.size 3 1 u7 (x :: (fs.take k).flatMap p).length ((x :: (fs.take k).flatMap p).map (Value.int .i64))) := ho
      have hBw : Below w.heap.size w wr := hBW.trans (hB.mono hBW.size)
      clear ho
      by_cases hlt : k < n
      · obtain ⟨b, o, i, b2, o2, pa, pc, zs, rfl, q2, q3, rfl, q5, q6, q7, q8⟩ := HC.out k hlt
        obtain ⟨p0, p1, p2⟩ := HX.out.below hB
        replace q2 := cell_keep hBw q2
        replace q5 := cell_keep hBw q5
        obtain ⟨m, hm⟩ : ∃ m, m = zs.length := ⟨_, rfl⟩
        have hpl := HPL.out k hk
        obtain ⟨v', w2, hr, ho3, hg⟩ := run_append_ints wr W.heap.size u7 _ _ HO.out (.slice pa zs.length pc) zs (q6.below hBw) (by rw [List.length_cons]; omega) hB.size 40
        have HX : Hid (w2.ownsRow W.heap.size 3 1 v' (x :: (fs.take (k + 1)).flatMap p).length ((x :: (fs.take (k + 1)).flatMap p).map (Value.int .i64)) ∧ Below W.heap.size W w2) := by
          refine ⟨?_, hB.trans (below_of_grownS hg hB.size HO.out (Nat.le_refl _))⟩
          rw [flat_takeY fs 0 p k (by rw [← HN.out.1]; exact hlt), q8, show x :: ((fs.take k).flatMap p ++ zs) = (x :: (fs.take k).flatMap p) ++ zs from rfl, List.length_append, List.map_append]
          exact ho3
        rw [← hm] at q5 hr
        have q3' : (i : Int) < nf := by omega
        clear ho3 hg q8 hpl hm q6
        go_wp2_with (at_builtin; refine Lib.wpList_append_run _ rfl _ _ _ _ rfl _ _ rfl rfl _ _ hr ?_)
        go_roundw
        case rel => exact ⟨k + 1, hlt, by go_num, HX.out.1, HX.out.2⟩
        case measure => simp [intOf]; omega
      · go_wp2_with fail
        go_ret
        have hkn : k = fs.length := by rw [← HN.out.1]; omega
        have h1 := HO.out
        rw [hkn, List.take_length, ← HNZ.out] at h1
        obtain ⟨ya, yc, rfl⟩ := owns_form h1
        exact ⟨ya, yc, rfl, isInts_of_owns h1, hBw⟩
end Go.Proofs.YteekjigaicmohaaGreatDoor

/-
  Package calls: what a statement changes, and whether it is idle, by contracts.
-/
namespace Go.Proofs.YteekjigaicmohaaGreatDoor
open Go.RowKit Go.Extern.Stop Go.Stop Go.Extern

/-- A right program, and an answer that may be its own. -/
structure Good (P : ProgD) (L : List (List Int)) : Prop where
  right : checkE P = none
  sets : SetsOk P L
theorem Good.len {P : ProgD} {L : List (List Int)} (h : Good P L) : L.length ≤ 200 ∧ P.vars.length ≤ L.length ∧ P.vars.length ≤ 40 ∧ P.funs.length ≤ 8 ∧ P.stmts.length ≤ 80 := by
  obtain ⟨s1, s2, s3⟩ := right_small h.right
  have hpl := places_le P P.stmts.length
  have := h.sets.len
  have hge : P.vars.length ≤ places P P.stmts.length := by unfold places; omega
  omega
theorem getD_in {α : Type} (d : α) {l : List α} {i : Nat} (h : i < l.length) : l.getD i d = l[i] := by simp [List.getD, h]
theorem Good.row {P : ProgD} {L : List (List Int)} (h : Good P L) (j : Nat) (hj : j < L.length) : (L.getD j []).length ≤ 200 ∧ ∀ o ∈ L.getD j [], 0 ≤ o ∧ o < (L.length : Int) + (P.funs.length : Int) := by
  refine ⟨h.sets.short h.right j hj, fun o ho => ?_⟩
  obtain ⟨i, hi, rfl⟩ := List.getElem_of_mem ho
  have h1 := (h.sets.set j hj).1 i hi
  have h2 := h.sets.obj j hj i hi
  have e : (L.getD j []).getD i 0 = (L.getD j [])[i] := getD_in 0 hi
  rw [e] at h1 h2
  exact ⟨h1.1, h2⟩
theorem Good.params {P : ProgD} {L : List (List Int)} (h : Good P L) : ∀ f ∈ P.funs, f.params.length ≤ 1000 := fun f hf => by
  have := right_params3 h.right f hf
  omega
/-- A statement's numbers. -/
theorem Good.stm {P : ProgD} {L : List (List Int)} (h : Good P L) {s : StmtD} (hs : s ∈ P.stmts) : (∃ X : Nat, s.x = (X : Int) ∧ X < P.vars.length) ∧ (s.kind = kLoad ∨ s.kind = kCall ∨ s.kind = kCopy → ∃ Y : Nat, s.y = (Y : Int) ∧ Y < P.vars.length) ∧ s.args.length ≤ 3 := by
  obtain ⟨-, k2, k3, -, k5, k6, -⟩ := stmt_parts ((right_of h.right).st s hs)
  obtain ⟨x0, x1⟩ := varB_parts k2
  refine ⟨⟨s.x.toNat, by omega, by omega⟩, fun hk => ?_, ?_⟩
  · have n1 : s.kind ≠ kFun := by rcases hk with e | e | e <;> rw [e] <;> decide
    have n2 : s.kind ≠ kNew := by rcases hk with e | e | e <;> rw [e] <;> decide
    unfold yB at k3
    rw [if_neg (by simpa using n1), if_neg (by simpa using n2)] at k3
    obtain ⟨y0, y1⟩ := varB_parts k3
    exact ⟨s.y.toNat, by omega, by omega⟩
  · cases e : (s.kind == kCall) with
    | true => exact k5 e
    | false => rw [k6 e]; exact Nat.zero_le _
theorem called_in {P : ProgD} {L : List (List Int)} (h : Good P L) {s : StmtD} (hs : s ∈ P.stmts) : (∀ f ∈ calledL P L s, 0 ≤ f ∧ f < (P.funs.length : Int)) ∧ (calledL P L s).length ≤ 200 := by
  unfold calledL
  by_cases hk : s.kind = kCall
  case neg => rw [if_neg hk]; exact ⟨fun f hf => (by cases hf), Nat.zero_le _⟩
  case pos =>
  rw [if_pos hk]
  obtain ⟨Y, hY, hYn⟩ := (h.stm hs).2.1 (Or.inr (Or.inl hk))
  have hl := h.len
  have hr := h.row Y (by omega)
  have hsa : setAt L s.y = L.getD Y [] := by unfold setAt; rw [hY, Int.toNat_natCast]
  rw [hsa]
  refine ⟨fun f hf => ?_, Nat.le_trans (List.length_filter_le _ _) (by rw [List.length_map]; exact hr.1)⟩
  obtain ⟨h1, h2⟩ := List.mem_filter.1 hf
  obtain ⟨o, ho, rfl⟩ := List.mem_map.1 h1
  have := hr.2 o ho
  unfold fitsB at h2
  rw [Bool.and_eq_true, decide_eq_true_iff] at h2
  omega
set_option maxRecDepth 100000 in
set_option maxHeartbeats 16000000 in
theorem changed1_any (P : ProgD) (L : List (List Int)) (hG : Good P L) (s : StmtD) (hs : s ∈ P.stmts) (kd : ByteArray) (hkd : kd.toList = s.kind) (aa : Option Addr) (ac : Nat) (b5 b6 pb : Nat) (va : Option Addr) (vn vc : Nat) (a1 a2 a3 : Option Addr) (n1 n2 n3 c1 c2 c3 : Nat) (w : World)
    (hA : Asks w b5 b6 (.slice va vn vc) (.slice a1 n1 c1) (.slice a2 n2 c2) (.slice a3 n3 c3)) (hp : Box3 w pb (.slice a1 n1 c1) (.slice a2 n2 c2) (.slice a3 n3 c3)) (hI : IsSets w (.slice va vn vc) L) (hF : IsFuns w (.slice a2 n2 c2) P.funs) :
    Calls Tryz.prog 121 #[.agg #[.string kd, .int .i64 s.x, .int .i64 s.y, .slice aa s.args.length ac], .pointer (some ⟨b5, 0, none⟩), .pointer (some ⟨pb, 0, none⟩), .pointer (some ⟨b6, 0, none⟩)] w fun e w' => ∃ xa xc, e = .returned (.slice xa (changedL P L s).length xc) ∧ IsInts w' (.slice xa (changedL P L s).length xc) (changedL P L s) ∧ Below w.heap.size w w' := by
  have hl := hG.len
  obtain ⟨⟨X, hX, hXn⟩, hy, hargs⟩ := hG.stm hs
  obtain ⟨hci, hcl⟩ := called_in hG hs
  obtain ⟨hb, h2, p2, q1, q2, q3, q4, q5⟩ := hA
  have hk := rule_kinds s.kind
  rw [← hkd] at hk
  obtain ⟨na, hna⟩ : ∃ na, na = s.args.length := ⟨_, rfl⟩
  obtain ⟨W, hW⟩ : ∃ W, W = w.alloc (stmBox kd s.x s.y (.slice aa na ac)) := ⟨_, rfl⟩
  have hBW : Below w.heap.size w W := by rw [hW]; exact below1 w _
  have HB : Hid (W.heap[w.heap.size]? = some (stmBox kd s.x s.y (.slice aa na ac))) := by show _ = _; rw [hW]; exact heap_new w _
  have KP : Hid (Calls Tryz.prog 159 #[.int .i64 s.x, .pointer (some ⟨hb, 0, none⟩)] W fun e w' => ∃ xa xc, e = .returned (.slice xa (ptrL L s.x).length xc) ∧ IsInts w' (.slice xa (ptrL L s.x).length xc) (ptrL L s.x) ∧ Below W.heap.size W w') := by
    rw [hX]
    exact ptr1_any L hb X va vn vc W (by omega) (by have := (hG.row X (by omega)).1; omega) (hI.below hBW) (cell_keep hBW q3)
  have KC : Hid (s.kind = kCall → ∀ wx, Below W.heap.size W wx → Calls Tryz.prog 116 #[.agg #[.string kd, .int .i64 s.x, .int .i64 s.y, .slice aa na ac], .pointer (some ⟨h2, 0, none⟩), .pointer (some ⟨p2, 0, none⟩)] wx fun e w' => ∃ xa xc, e = .returned (.slice xa (calledL P L s).length xc) ∧ IsInts w' (.slice xa (calledL P L s).length xc) (calledL P L s) ∧ Below W.heap.size W w') := fun hkc wx hb' => by
    obtain ⟨Y, hY, hYn⟩ := hy (Or.inr (Or.inl hkc))
    have hr := hG.row Y (by omega)
    have hw := hBW.trans (hb'.mono hBW.size)
    have := call1_any P L s kd hkd aa ac h2 p2 Y hY (by omega) va vn vc (.slice a1 n1 c1) (.slice a2 n2 c2) (.slice a3 n3 c3) wx (by omega) (by omega) hr.2 (by omega) (fun f hf => by have := hG.params f hf; omega) (by omega) (hI.below hw) (cell_keep hw q4) (hF.below hw) (q5.below hw)
    rw [← hna] at this
    exact this.mono fun e w' ⟨xa, xc, r1, r2, r3⟩ => ⟨xa, xc, r1, r2, hb'.trans (r3.mono hb'.size)⟩
  have KG : Hid (∀ wx fa fc, Below W.heap.size W wx → IsInts wx (.slice fa (calledL P L s).length fc) (calledL P L s) → Calls Tryz.prog 122 #[.agg #[.slice a1 n1 c1, .slice a2 n2 c2, .slice a3 n3 c3], .int .i64 s.x, .slice fa (calledL P L s).length fc] wx fun e w' => ∃ xa xc, e = .returned (.slice xa (callingL P s.x (calledL P L s)).length xc) ∧ IsInts w' (.slice xa (callingL P s.x (calledL P L s)).length xc) (callingL P s.x (calledL P L s)) ∧ Below W.heap.size W w') := fun wx fa fc hb' hi => by
    have hw := hBW.trans (hb'.mono hBW.size)
    exact (calling_any P s.x _ fa fc (.slice a1 n1 c1) (.slice a2 n2 c2) (.slice a3 n3 c3) wx hci (by omega) hG.params hi (hF.below hw) ⟨_, _, _, rfl⟩ ⟨_, _, _, rfl⟩).mono fun e w' ⟨xa, xc, r1, r2, r3⟩ => ⟨xa, xc, r1, r2, hb'.trans (r3.mono hb'.size)⟩
  have HD : Hid ((s.kind = kStore → changedL P L s = ptrL L s.x) ∧ (s.kind = kCall → changedL P L s = callingL P s.x (calledL P L s)) ∧ (s.kind ≠ kStore ∧ s.kind ≠ kCall → changedL P L s = [s.x])) := by
    refine ⟨fun e => ?_, fun e => ?_, fun e => ?_⟩
    · unfold changedL; rw [if_pos e]
    · unfold changedL; rw [if_neg (by rw [e]; decide), if_pos e]
    · unfold changedL; rw [if_neg e.1, if_neg e.2]
  have c0 : W.cell? ⟨w.heap.size, 0, none⟩ = some (.string kd) := by rw [Lib.cell_of_heap HB.out]; rfl
  have c1' : W.cell? ⟨w.heap.size, 1, none⟩ = some (.int .i64 s.x) := by rw [Lib.cell_of_heap HB.out]; rfl
  have c2' : W.cell? ⟨w.heap.size, 2, none⟩ = some (.int .i64 s.y) := by rw [Lib.cell_of_heap HB.out]; rfl
  have c3' : W.cell? ⟨w.heap.size, 3, none⟩ = some (.slice aa na ac) := by rw [Lib.cell_of_heap HB.out]; rfl
  replace q1 := cell_keep hBW q1
  replace q2 := cell_keep hBW q2
  obtain ⟨p0, p1, p3⟩ := hp.below hBW
  have HBW : Hid (Below w.heap.size w W) := hBW
  rw [← hna]
  obtain ⟨sx, hsx⟩ : ∃ z, z = s.x := ⟨_, rfl⟩
  obtain ⟨sy, hsy⟩ : ∃ z, z = s.y := ⟨_, rfl⟩
  rw [← hsx] at KP KC KG HD c1' hW ⊢
  rw [← hsy] at KC c2' hW ⊢
  have HKD : Hid (kd.toList = s.kind) := hkd
  clear hX hy hsx hsy hna hkd hl hXn hargs hci hcl q3 q4 q5 hBW
  rcases hk with ⟨hK, g1, g2, g3⟩ | ⟨hK, g1, g2, g3⟩ | ⟨hK, g1, g2, g3⟩ | ⟨hK, g1, g2, g3⟩
  · have HE : Hid (changedL P L s = [sx]) := HD.out.2.2 ⟨by rw [← HKD.out, hK]; decide, by rw [← HKD.out, hK]; decide⟩
    rw [HE.out]
    clear hK
    go_enter Tryz.func121, Tryz.ntmps121
    go_upto_region 1 with fail
    rw [← hW]
    clear hW
    go_wp2_with fail
    go_ret
    exact ⟨_, _, rfl, isInts_of_owns (own_one W sx), HBW.out.alloc HBW.out.size _⟩
  · have hkc : s.kind = kCall := by rw [← HKD.out]; exact hK
    have HE : Hid (changedL P L s = callingL P sx (calledL P L s)) := HD.out.2.1 hkc
    rw [HE.out]
    have KC1 := KC.out hkc
    have KC2 : Hid _ := KC1
    obtain ⟨nc, hnc⟩ : ∃ n, n = (calledL P L s).length := ⟨_, rfl⟩
    rw [← hnc] at KC2 KG
    clear hK hkc KC KC1 hnc
    go_enter Tryz.func121, Tryz.ntmps121
    go_upto_region 1 with fail
    rw [← hW]
    clear hW
    obtain ⟨bx, hbx⟩ : ∃ b, b = w.heap.size := ⟨_, rfl⟩
    rw [← hbx] at c0 c1' c2' c3' ⊢
    clear hbx
    go_upto_region 5 with fail
    go_region_held3 (fun wx => Below W.heap.size W wx ∧ wx.cell? ⟨pb, 0, none⟩ = some (.slice a1 n1 c1) ∧ wx.cell? ⟨pb, 1, none⟩ = some (.slice a2 n2 c2) ∧ wx.cell? ⟨pb, 2, none⟩ = some (.slice a3 n3 c3) ∧ wx.cell? ⟨bx, 0, none⟩ = some (.string kd) ∧ wx.cell? ⟨bx, 1, none⟩ = some (.int .i64 sx) ∧ wx.cell? ⟨bx, 2, none⟩ = some (.int .i64 sy) ∧ wx.cell? ⟨bx, 3, none⟩ = some (.slice aa na ac) ∧ wx.cell? ⟨b6, 0, none⟩ = some (callF h2 p2))
      ((go_split_ands; first
        | (with_reducible exact ⟨Below.refl _ _, p0, p1, p3, c0, c1', c2', c3', q2⟩)
        | (exact ⟨(Below.refl _ _).drew, p0, p1, p3, c0, c1', c2', c3', q2⟩)
        | exact ⟨hb7, cell_keep hb7 p0, cell_keep hb7 p1, cell_keep hb7 p3, cell_keep hb7 c0, cell_keep hb7 c1', cell_keep hb7 c2', cell_keep hb7 c3', cell_keep hb7 q2⟩
        | exact ⟨hb7.drew, cell_keep hb7 p0, cell_keep hb7 p1, cell_keep hb7 p3, cell_keep hb7 c0, cell_keep hb7 c1', cell_keep hb7 c2', cell_keep hb7 c3', cell_keep hb7 q2⟩
        | exact ⟨hb8, cell_keep hb8 p0, cell_keep hb8 p1, cell_keep hb8 p3, cell_keep hb8 c0, cell_keep hb8 c1', cell_keep hb8 c2', cell_keep hb8 c3', cell_keep hb8 q2⟩
        | exact ⟨hb8.drew, cell_keep hb8 p0, cell_keep hb8 p1, cell_keep hb8 p3, cell_keep hb8 c0, cell_keep hb8 c1', cell_keep hb8 c2', cell_keep hb8 c3', cell_keep hb8 q2⟩))
      (first
        | (go_at_call 116; refine (KC2.out _ ?_).mono ?_; (first | exact Below.refl _ _ | exact (Below.refl _ _).drew); rintro e w7 ⟨fa, fc, rfl, hi7, hb7⟩)
        | (go_at_call 122; refine (KG.out _ fa fc ?_ ?_).mono ?_; (first | exact hb7 | exact hb7.drew); (first | exact hi7 | exact hi7.below (Below.refl _ _).drew); rintro e w8 ⟨ya, yc, rfl, hi8, hb8⟩))
    all_goals (go_wp2_with fail; go_ret)
    all_goals first
      | exact ⟨_, _, rfl, hi8, HBW.out.trans (hb8.mono HBW.out.size)⟩
      | exact ⟨_, _, rfl, hi8.below (Below.refl _ _).drew, (HBW.out.trans (hb8.mono HBW.out.size)).drew⟩
  · have HE : Hid (changedL P L s = ptrL L sx) := HD.out.1 (by rw [← HKD.out]; exact hK)
    rw [HE.out]
    clear hK
    go_enter Tryz.func121, Tryz.ntmps121
    go_upto_region 1 with fail
    rw [← hW]
    clear hW
    go_wp2_with fail
    refine KP.out.mono ?_
    rintro e w7 ⟨xa, xc, rfl, hi7, hb7⟩
    go_wp2_with fail
    go_ret
    exact ⟨xa, xc, rfl, hi7, HBW.out.trans (hb7.mono HBW.out.size)⟩
  · have HE : Hid (changedL P L s = [sx]) := HD.out.2.2 ⟨fun e => hK.2.2 (by rw [HKD.out]; exact e), fun e => hK.2.1 (by rw [HKD.out]; exact e)⟩
    rw [HE.out]
    clear hK
    go_enter Tryz.func121, Tryz.ntmps121
    go_upto_region 1 with fail
    rw [← hW]
    clear hW
    go_wp2_with fail
    go_ret
    exact ⟨_, _, rfl, isInts_of_owns (own_one W sx), HBW.out.alloc HBW.out.size _⟩
end Go.Proofs.YteekjigaicmohaaGreatDoor

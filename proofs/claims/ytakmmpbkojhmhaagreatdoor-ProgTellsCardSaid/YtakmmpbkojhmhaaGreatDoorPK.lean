/-
  Package prog: namer, each at numbers, list, by contracts; strings.Builder's writing.
-/
import Derived.Test.YtakmmpbkojhmhaaGreatDoorPE
import Derived.Test.YtakmmpbkojhmhaaGreatDoorPMem
import Derived.Lib.OwnBridge
import Derived.Lib.AppendZeros
import Derived.Lib.RowBridge
import Derived.Sort.Grow
namespace Go.Proofs.YtakmmpbkojhmhaaGreatDoor
open Go.RowKit Go.Extern.Stop Go.Stop Go.Extern

/-- namer's function: the names lie in a cell. -/
def NamesAt (w : World) (nb : Nat) (ns : List Bs) : Prop := ∃ sv, w.cell? ⟨nb, 0, none⟩ = some sv ∧ IsStrs w sv ns
theorem NamesAt.below {w w' : World} {nb : Nat} {ns : List Bs} (h : NamesAt w nb ns) (hb : Below w.heap.size w w') : NamesAt w' nb ns := by
  obtain ⟨sv, h1, h2⟩ := h
  exact ⟨sv, cell_keep hb h1, h2.below hb⟩
abbrev namerF (nb : Nat) : Value := .func (Fn.func 110) #[] #[.pointer (some ⟨nb, 0, none⟩)]
theorem namer1_any (ns : List Bs) (k : Int) (nb : Nat) (w : World) (h : NamesAt w nb ns) (h0 : 0 ≤ k) (h1 : k < (ns.length : Int)) :
    Calls Tryz.prog 110 #[.int .i64 k, .pointer (some ⟨nb, 0, none⟩)] w fun e w' => e = .returned (.string (S (ns.getD k.toNat []))) ∧ w' = w := by
  obtain ⟨j, rfl⟩ : ∃ j : Nat, k = (j : Int) := ⟨k.toNat, by omega⟩
  rw [Int.toNat_natCast]
  obtain ⟨sv, hc, a, c, rfl, -, hs⟩ := h
  obtain ⟨b, o, rfl, e0⟩ := hs j (by omega)
  obtain ⟨z, hz⟩ : ∃ z, z = ns.getD j [] := ⟨_, rfl⟩
  rw [← hz] at e0 ⊢
  have hj : j < ns.length := by omega
  clear hs hz h0
  go_enter Tryz.func110, Tryz.ntmps110
  go_wp2
  go_ret
  exact ⟨rfl, rfl⟩
theorem namer_any (ns : List Bs) (v : Value) (w : World) (h : IsStrs w v ns) :
    Calls Tryz.prog 70 #[v] w fun e w' => ∃ nb, e = .returned (namerF nb) ∧ NamesAt w' nb ns ∧ Below w.heap.size w w' := by
  have H : Hid (IsStrs w v ns) := h
  obtain ⟨a, c, rfl, -, -⟩ := h
  go_enter Tryz.func70, Tryz.ntmps70
  go_wp2
  go_ret
  exact ⟨w.heap.size, rfl, ⟨_, by simp, H.out.below (below1 w _)⟩, below1 w _⟩

set_option maxRecDepth 100000 in
set_option maxHeartbeats 2000000 in
theorem eachIS (ns : List Bs) (zs : List Int) (v : Value) (nb : Nat) (w : World) (hm2 : zs.length ≤ 1000000) (h : IsInts w v zs) (hn : NamesAt w nb ns) (hin : ∀ k ∈ zs, 0 ≤ k ∧ k < (ns.length : Int)) :
    Calls Tryz.prog 112 #[v, namerF nb] w fun e w' => ∃ v', e = .returned v' ∧ w'.ownsRow w.heap.size 9 1 v' (zs.map fun k => ns.getD k.toNat []).length ((zs.map fun k => ns.getD k.toNat []).map strV) ∧ Below w.heap.size w w' := by
  have H : Hid (IsInts w v zs) := h
  have HN : Hid (NamesAt w nb ns) := hn
  have HI : Hid (∀ k ∈ zs, 0 ≤ k ∧ k < (ns.length : Int)) := hin
  obtain ⟨a, c, rfl⟩ := isInts_form h
  clear h hn hin
  generalize hnn : zs.length = n at *
  have HL : Hid (zs.length = n) := hnn
  clear hnn
  go_enter Tryz.func112, Tryz.ntmps112
  go_wp2_with fail
  go_loopw [5, 10] (fun u t wr => ∃ k : Nat, k ≤ n ∧ t = .int .i64 k ∧ wr.ownsRow w.heap.size 9 1 u ((zs.take k).map fun k => ns.getD k.toNat []).length (((zs.take k).map fun k => ns.getD k.toNat []).map strV) ∧ Below w.heap.size w wr) (fun _ t _ => (n - intOf t).toNat)
  case atStart => exact ⟨0, Nat.zero_le _, rfl, World.ownsRow_nil _ _ _ _, Below.refl _ _⟩
  case round =>
    obtain ⟨k, hk, rfl, ho, hB⟩ := hrel
    by_cases hlt : k < n
    · have hl : k < zs.length := by rw [HL.out]; exact hlt
      obtain ⟨b, o, rfl, e0⟩ := isInts_at H.out k hl
      have e1 := cell_keep hB e0
      obtain ⟨z, hze⟩ : ∃ z, z = zs.getD k 0 := ⟨_, rfl⟩
      have hzi := HI.out z (by rw [hze]; simp [List.getD, hl])
      have hts : (zs.take (k + 1)).map (fun k => ns.getD k.toNat []) = (zs.take k).map (fun k => ns.getD k.toNat []) ++ [ns.getD z.toNat []] := by
        rw [List.take_succ_eq_append_getElem hl, List.map_append, hze]
        simp [List.getD, hl]
      rw [← hze] at e1
      obtain ⟨q, hq⟩ : ∃ q, q = ns.getD z.toNat [] := ⟨_, rfl⟩
      obtain ⟨L, hLe⟩ : ∃ L, L = (zs.take k).map (fun k => ns.getD k.toNat []) := ⟨_, rfl⟩
      rw [← hq, ← hLe] at hts
      rw [← hLe] at ho
      have hLl : L.length ≤ 1000000 := by rw [hLe, List.length_map]; have := List.length_take_le k zs; omega
      have HC : Hid (Calls Tryz.prog 110 #[.int .i64 z, .pointer (some ⟨nb, 0, none⟩)] wr fun e w' => e = .returned (.string (S q)) ∧ w' = wr) := by
        rw [hq]; exact namer1_any ns z nb wr (HN.out.below hB) hzi.1 hzi.2
      have HO : Hid (wr.ownsRow w.heap.size 9 1 u5 L.length (L.map strV) ∧ L.length ≤ 1000000 ∧ (zs.take (k + 1)).map (fun k => ns.getD k.toNat []) = L ++ [q]) := ⟨ho, hLl, hts⟩
      clear hts hq hLe hLl ho hzi hze hl e0
      go_wp2_with fail
      refine HC.out.mono ?_
      rintro e w1 ⟨rfl, hw⟩
      obtain rfl := hw.symm
      obtain ⟨v', w2, hr, ho3, hB3⟩ := append_str wr w.heap.size u5 L HO.out.1 hB.size HO.out.2.1 q 39
      have HX : Hid (w2.ownsRow w.heap.size 9 1 v' ((zs.take (k + 1)).map fun k => ns.getD k.toNat []).length (((zs.take (k + 1)).map fun k => ns.getD k.toNat []).map strV) ∧ Below w.heap.size w w2) := by
        refine ⟨?_, hB.trans hB3⟩
        rw [HO.out.2.2]; exact ho3
      clear ho3 hB3
      go_wp2_with (at_builtin; refine Lib.wpList_append_run _ rfl _ _ _ _ rfl _ _ rfl rfl _ _ hr ?_)
      go_roundw
      case rel => exact ⟨k + 1, hlt, by go_num, HX.out.1, HX.out.2⟩
      case measure => simp [intOf]; omega
    · have HX : Hid (wr.ownsRow w.heap.size 9 1 u5 (zs.map fun k => ns.getD k.toNat []).length ((zs.map fun k => ns.getD k.toNat []).map strV)) := by
        show wr.ownsRow w.heap.size 9 1 u5 (zs.map fun k => ns.getD k.toNat []).length ((zs.map fun k => ns.getD k.toNat []).map strV)
        have hkn : k = zs.length := by rw [HL.out]; omega
        rw [hkn, List.take_length] at ho
        exact ho
      clear ho
      go_wp2_with fail
      go_ret
      exact ⟨u5, rfl, HX.out, hB⟩
end Go.Proofs.YtakmmpbkojhmhaaGreatDoor

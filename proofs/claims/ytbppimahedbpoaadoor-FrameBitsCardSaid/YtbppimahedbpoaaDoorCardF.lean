/-
  What the cards of frames share: how arguments come in, how six errors lie.
-/
import Derived.Test.YtbppimahedbpoaaDoorLaid
import Derived.Test.YtbppimahedbpoaaDoorND
import Derived.Lib.SmallJoins
import Derived.Deep.Strs
import Derived.Deep.Matrix
import Derived.ProofKit
import Derived.OpenShut
import Derived.Carry
namespace Go.Proofs.YtbppimahedbpoaaDoor
open Go.ChangeShapes Go.WideShapes Go.ChangeAt Go.RowKit Go.Deep

section
variable {H : Type} {enc : TypeId × Value → H} {W : World}
theorem spot_none {a : Addr} {v : Value} (i : Nat) (h : W.cell? (a.add i) = some v) (h0 : ∃ u, W.cell? (a.add 0) = some u) : ∃ b o, a = ⟨b, o, none⟩ := by
  obtain ⟨u, hu⟩ := h0
  obtain ⟨b, off, spot⟩ := a
  have hspot : spot = none := by simpa [Addr.add] using World.cell?_spot hu
  subst hspot
  exact ⟨b, off, rfl⟩

theorem ints_read {fuel : Nat} {v : Value} {x : DataW H × List MemPlace} (h : DataW.trod enc Tryd.prog W 0 (fun _ => true) true fuel 22 [v] = some x) : ∃ zs, IsCap W v zs := by
  rcases open_ints Tryd.underlying22 Tryd.underlying3 (by kernel_rfl) h with ⟨hcs, _⟩ | ⟨a, len, cap, zs, hcs, _, hl, _, hz, _, hc, _⟩
  · have hv : v = .slice none 0 0 := by simpa using hcs
    subst hv
    exact ⟨[], IsInts.nil _ _ _, none, 0, rfl, Nat.le_refl _⟩
  · have hv : v = .slice (some a) len cap := by simpa using hcs
    have hz' : zs.length = cap := by simpa using hz
    subst hv
    have hlt : (zs.take len).length = len := by rw [List.length_take]; omega
    refine ⟨zs.take len, ?_, some a, cap, by rw [hlt], by rw [hlt]; exact hl⟩
    by_cases h0 : len = 0
    · subst h0
      exact IsInts.nil _ _ _
    · obtain ⟨b, off, rfl, hc'⟩ := ints_at hc (by omega)
      refine isInts_of_cells hlt.symm fun j hj => ?_
      rw [hlt] at hj
      rw [hc' j (by omega)]
      simp [List.getD, hj]

end
theorem Tryd.laidOut : laidOutB Tryd.prog = true := by kernel_rfl
theorem six_of {W : World} {l : List (String × DataW Unit)} (h : laidMetH Tryd.prog l W)
    (f0 : l.filter (fun x => x.1 == "fingerpost/api.ErrText") = [("fingerpost/api.ErrText", Rows.laid_fingerpost_api_ErrText)])
    (f1 : l.filter (fun x => x.1 == "fingerpost/api.ErrBound") = [("fingerpost/api.ErrBound", Rows.laid_fingerpost_api_ErrBound)])
    (f2 : l.filter (fun x => x.1 == "fingerpost/api.ErrShape") = [("fingerpost/api.ErrShape", Rows.laid_fingerpost_api_ErrShape)])
    (f3 : l.filter (fun x => x.1 == "fingerpost/api.ErrKind") = [("fingerpost/api.ErrKind", Rows.laid_fingerpost_api_ErrKind)])
    (f7 : l.filter (fun x => x.1 == "fingerpost/api.ErrFull") = [("fingerpost/api.ErrFull", Rows.laid_fingerpost_api_ErrFull)])
    (f10 : l.filter (fun x => x.1 == "fingerpost/api.ErrSum") = [("fingerpost/api.ErrSum", Rows.laid_fingerpost_api_ErrSum)]) : ∃ a, Errs6 W a := by
  obtain ⟨a0, _, h0, _⟩ := sentinel_of h "fingerpost/api.ErrText" _ 4 f0 (by kernel_rfl) (by kernel_rfl)
  obtain ⟨a1, _, h1, _⟩ := sentinel_of h "fingerpost/api.ErrBound" _ 1 f1 (by kernel_rfl) (by kernel_rfl)
  obtain ⟨a2, _, h2, _⟩ := sentinel_of h "fingerpost/api.ErrShape" _ 2 f2 (by kernel_rfl) (by kernel_rfl)
  obtain ⟨a3, _, h3, _⟩ := sentinel_of h "fingerpost/api.ErrKind" _ 0 f3 (by kernel_rfl) (by kernel_rfl)
  obtain ⟨a7, _, h7, _⟩ := sentinel_of h "fingerpost/api.ErrFull" _ 3 f7 (by kernel_rfl) (by kernel_rfl)
  obtain ⟨a10, _, h10, _⟩ := sentinel_of h "fingerpost/api.ErrSum" _ 5 f10 (by kernel_rfl) (by kernel_rfl)
  exact ⟨fun i => if i = 0 then a0 else if i = 1 then a1 else if i = 2 then a2 else if i = 3 then a3 else if i = 7 then a7 else a10, ⟨h0, h1, h2, h3, h7, h10⟩⟩
theorem trod_low {H : Type} {enc : TypeId × Value → H} {W : World} {t : TypeId} {v : Value} {d : DataW H} {p : List MemPlace} (h : DataW.Trod enc Tryd.prog W 0 (fun _ => true) true t v d p) : ∀ x ∈ p, x.block < W.heap.size := by
  obtain ⟨m, hm⟩ := h
  exact DataW.trod_lt m _ _ _ hm
theorem array5 {α : Type} {cs : Array α} (h : cs.size = 5) : ∃ c0 c1 c2 c3 c4, cs = #[c0, c1, c2, c3, c4] := by
  obtain ⟨l⟩ := cs
  have hl : l.length = 5 := by simpa using h
  match l, hl with
  | [c0, c1, c2, c3, c4], _ => exact ⟨c0, c1, c2, c3, c4, rfl⟩
theorem struct5 {P : Program} {w : World} {base : Nat} {spare : Nat → Bool} {held : Bool} {H : Type} {enc : TypeId × Value → H} {t : TypeId} {f0 f1 f2 f3 f4 : Field} {fuel : Nat} {cs : List Value} {x : DataW H × List MemPlace} (ht : P.underlying t = some (.struct #[f0, f1, f2, f3, f4])) (h : DataW.trod enc P w base spare held fuel t cs = some x) :
    ∃ (y0 y1 y2 y3 y4 : DataW H × List MemPlace) (n : Nat), DataW.trod enc P w base spare held n f0.type ((cs.drop f0.offset).take (P.cellsOf f0.type)) = some y0 ∧
      DataW.trod enc P w base spare held n f1.type ((cs.drop f1.offset).take (P.cellsOf f1.type)) = some y1 ∧ DataW.trod enc P w base spare held n f2.type ((cs.drop f2.offset).take (P.cellsOf f2.type)) = some y2 ∧
      DataW.trod enc P w base spare held n f3.type ((cs.drop f3.offset).take (P.cellsOf f3.type)) = some y3 ∧ DataW.trod enc P w base spare held n f4.type ((cs.drop f4.offset).take (P.cellsOf f4.type)) = some y4 := by
  obtain ⟨xs, n, _, rfl, hl, hlen, hf⟩ := DataW.trod_struct ht h
  match xs, hlen with
  | [y0, y1, y2, y3, y4], _ => exact ⟨y0, y1, y2, y3, y4, n, by simpa using hf 0 f0 rfl, by simpa using hf 1 f1 rfl, by simpa using hf 2 f2 rfl, by simpa using hf 3 f3 rfl, by simpa using hf 4 f4 rfl⟩
set_option maxRecDepth 100000 in
theorem frame_in {H : Type} {enc : TypeId × Value → H} {W : World} {base : Nat} {v : Value} {d : DataW H} {p : List MemPlace} (hv : Value.okWide Tryd.prog W .any base 24 v) (h : DataW.Trod enc Tryd.prog W 0 (fun _ => true) true 24 v d p) :
    ∃ (f : FrameD) (nv : Value), v = frameV f nv ∧ IsInts W nv f.nums := by
  obtain ⟨cs, rfl, hsz⟩ := okWide_struct Tryd.underlying24 hv
  obtain ⟨c0, c1, c2, c3, c4, rfl⟩ := array5 (hsz.trans (by kernel_rfl))
  obtain ⟨fuel, hf⟩ := h
  obtain ⟨y0, y1, y2, y3, y4, n, h0, h1, h2, h3, h4⟩ := struct5 Tryd.underlying24 hf
  have k5 : Tryd.prog.cellsOf 5 = 1 := by kernel_rfl
  have k3 : Tryd.prog.cellsOf 3 = 1 := by kernel_rfl
  have kL : Tryd.prog.cellsOf 22 = 1 := by kernel_rfl
  simp only [k5, k3, kL, Value.cells, List.drop_zero, List.drop_succ_cons, List.take_succ_cons, List.take_zero] at h0 h1 h2 h3 h4
  obtain ⟨r0, e0, _⟩ := DataW.trod_int Tryd.underlying5 h0
  obtain ⟨r1, e1, _⟩ := DataW.trod_int Tryd.underlying3 h1
  obtain ⟨r2, e2, _⟩ := DataW.trod_int Tryd.underlying3 h2
  obtain ⟨r3, e3, _⟩ := DataW.trod_int Tryd.underlying3 h3
  obtain ⟨zs, hz⟩ := ints_read (enc := enc) (W := W) (v := c4) h4
  have e0' : c0 = .int .u8 r0 := by simpa using e0
  have e1' : c1 = .int .i64 r1 := by simpa using e1
  have e2' : c2 = .int .i64 r2 := by simpa using e2
  have e3' : c3 = .int .i64 r3 := by simpa using e3
  subst e0' e1' e2' e3'
  exact ⟨⟨r0, r1, r2, r3, zs⟩, c4, rfl, hz.1⟩
end Go.Proofs.YtbppimahedbpoaaDoor

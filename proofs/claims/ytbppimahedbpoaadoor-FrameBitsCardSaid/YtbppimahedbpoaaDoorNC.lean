/-
  Package frame: numbers as bytes, one behind the other, by contracts.
-/
import Derived.Test.YtbppimahedbpoaaDoorNB
import Derived.Deep.RegionHeld3
namespace Go.Proofs.YtbppimahedbpoaaDoor
open Go.RowKit Go.Extern.Stop Go.Stop Go.Extern

abbrev TU8 : TypeId := 5
abbrev TBy : TypeId := 46
theorem Tryd.infoU8 : (Tryd.prog.info? 5).map (fun i => (i.zero, i.size, i.bytes)) = some (some (.int .u8 0), 1, 1) := by kernel_rfl
def byV (b : UInt8) : Value := .int .u8 (b.toNat : Int)
/-- A text on its way: its box, and its bytes. -/
structure TextM (w : World) (B tb : Nat) (v : Value) (l : Bs) : Prop where
  low : B ≤ tb
  blk : w.heap[tb]? = some (.cells #[v] TBy (0, 0))
  row : w.ownsRow B TU8 1 v l.length (l.map byV)
theorem TextM.below {w w' : World} {B tb : Nat} {v : Value} {l : Bs} (h : TextM w B tb v l) (hb : Below w.heap.size w w') : TextM w' B tb v l := ⟨h.low, block_keep hb h.blk, owns_below h.row hb⟩
theorem TextM.size {w : World} {B tb : Nat} {v : Value} {l : Bs} (h : TextM w B tb v l) : B ≤ w.heap.size := Nat.le_trans h.low (Nat.le_of_lt (Array.getElem?_eq_some_iff.1 h.blk).1)
abbrev litO (x : Int) : Obj := .cells #[.int .u8 x] TU8
/-- One byte more. -/
theorem TextM.add {w : World} {B tb : Nat} {v : Value} {l : Bs} (h : TextM w B tb v l) (hl : l.length ≤ 1000000) (x : Int) (b : UInt8) (hx : x = (b.toNat : Int)) :
    ∃ v' w4, (Builtin.append_ #[TBy, TBy] TBy #[v, .slice (some ⟨w.heap.size, 0, none⟩) 1 1]).run Tryd.prog (w.drew.alloc (litO x)) = .ok v' w4 ∧
      w4.cell? ⟨tb, 0, none⟩ = some v ∧ w4.frozen? ⟨tb, 0, none⟩ = false ∧ TextM (w4.setCell ⟨tb, 0, none⟩ v') B tb v' (l ++ [b]) ∧ Below B w (w4.setCell ⟨tb, 0, none⟩ v') := by
  have hd := h.below (Below.refl _ w).drew
  obtain ⟨v', w4, h1, h2, h3, h4, h5⟩ := append_at1 w.drew B v l.length 1 1 TBy TU8 (.int .u8 0) (l.map byV) [.int .u8 x] hd.row hd.size Tryd.underlying46 Tryd.infoU8 (by decide) rfl rfl (fun y hy => by
    rw [List.mem_singleton.1 hy]; rfl) hl TBy (by decide)
  have hne : v.ownBlock ≠ some tb := fun q => by
    obtain ⟨_, cs, hh⟩ := ownBlock_lt h.row q
    rw [h.blk] at hh
    injection hh with hh
    injection hh with _ hh _
    exact absurd hh (by decide)
  have hb4 := h4 tb _ hd.blk hne
  have hset := kept_setCell (i := 0) hb4 v'
  refine ⟨v', w4, h1, by rw [Lib.cell_of_heap hb4]; rfl, Lib.frozen_of_heap hb4 0, ⟨h.low, by rw [set_block _ _ _ _ _ _ hb4]; rfl, ?_⟩, ?_⟩
  · have he : (l ++ [b]).map byV = l.map byV ++ [.int .u8 x] := by rw [List.map_append, hx]; rfl
    have hl2 : (l ++ [b]).length = l.length + 1 := by simp
    rw [he, hl2]
    exact owns_kept h2 hset (by decide)
  · have hd0 : Below B w w.drew := (Below.refl _ w).drew
    exact (hd0.trans h3).setCell h.low _
set_option maxRecDepth 100000 in
set_option maxHeartbeats 8000000 in
theorem put_any (w : World) (B tb : Nat) (v : Value) (l : Bs) (h : TextM w B tb v l) (hl : l.length ≤ 100000) (size x : Nat) (hs : size = 1 ∨ size = 4) :
    Calls Tryd.prog 35 #[.int .i64 (size : Int), .int .i64 (x : Int), .pointer (some ⟨tb, 0, none⟩)] w fun e w' => e = .returned (.tuple #[]) ∧ (∃ v', TextM w' B tb v' (l ++ highD size x)) ∧ Below B w w' := by
  have H : Hid (TextM w B tb v l) := h
  have hs4 : size ≤ 4 := by omega
  clear h
  go_enter Tryd.func35, Tryd.ntmps35
  go_wp2_with fail
  go_loopw [5] (fun t wr => ∃ k : Nat, k ≤ size ∧ t = .int .i64 ((size : Int) - 1 - k) ∧ (∃ v', TextM wr B tb v' (l ++ (highD size x).take k)) ∧ Below B w wr) (fun t _ => (intOf t + 1).toNat)
  case atStart => exact ⟨0, Nat.zero_le _, by simp, ⟨v, by simpa using H.out⟩, Below.refl _ _⟩
  case round =>
    obtain ⟨k, hk, rfl, ⟨v', hT⟩, hB⟩ := hrel
    by_cases hlt : k < size
    · obtain ⟨i, hi⟩ : ∃ i : Nat, i = size - 1 - k := ⟨_, rfl⟩
      have hii : (size : Int) - 1 - k = (i : Int) := by omega
      have hi4 : i < 4 := by omega
      have hkl : k < (highD size x).length := by rw [highD_len]; exact hlt
      have hbyte : (highD size x).getD k 0 = byteN (x / 256 ^ i) := by
        unfold highD
        simp [List.getD, hlt, hi]
      obtain ⟨w9, hw9⟩ : ∃ v, v = l ++ (highD size x).take k := ⟨_, rfl⟩
      have hnext : l ++ (highD size x).take (k + 1) = w9 ++ [byteN (x / 256 ^ i)] := by
        rw [List.take_succ_eq_append_getElem hkl, hw9, List.append_assoc, ← hbyte]
        simp [List.getD, hkl]
      rw [← hw9] at hT
      have hwl : w9.length ≤ 1000000 := by
        rw [hw9, List.length_append, List.length_take, highD_len]; omega
      have HN : Hid (l ++ (highD size x).take (k + 1) = w9 ++ [byteN (x / 256 ^ i)] ∧ Below B w wr) := ⟨hnext, hB⟩
      rw [hii]
      have hki : Hid (((size : Int) - 1 - ((k + 1 : Nat) : Int)) = (i : Int) - 1) := by show _ = _; omega
      have t0 : wr.cell? ⟨tb, 0, none⟩ = some v' := by rw [Lib.cell_of_heap hT.blk]; rfl
      obtain ⟨ua, uc, rfl⟩ := owns_form hT.row
      obtain ⟨nn, hnn⟩ : ∃ n, n = w9.length := ⟨_, rfl⟩
      obtain ⟨y, hy⟩ : ∃ y : Int, y = ((byteN (x / 256 ^ i)).toNat : Int) := ⟨_, rfl⟩
      obtain ⟨v6, w6, hr, t6, f6, hT6, hB6⟩ := hT.add hwl y _ hy
      obtain ⟨va, vc, rfl⟩ := owns_form hT6.row
      obtain ⟨n1, hn1⟩ : ∃ n, n = (w9 ++ [byteN (x / 256 ^ i)]).length := ⟨_, rfl⟩
      rw [← hn1] at hr hT6 hB6
      have HB6 : Hid (TextM (w6.setCell ⟨tb, 0, none⟩ (.slice va n1 vc)) B tb (.slice va n1 vc) (w9 ++ [byteN (x / 256 ^ i)]) ∧ Below B wr (w6.setCell ⟨tb, 0, none⟩ (.slice va n1 vc))) := ⟨hT6, hB6⟩
      have t0d : wr.drew.cell? ⟨tb, 0, none⟩ = some (.slice ua w9.length uc) := t0
      have t0a : (wr.drew.alloc (litO y)).cell? ⟨tb, 0, none⟩ = some (.slice ua w9.length uc) := cell_keep (below1 _ _) t0d
      have t0x : (wr.alloc (litO y)).cell? ⟨tb, 0, none⟩ = some (.slice ua w9.length uc) := cell_keep (below1 _ _) t0
      rw [← hnn] at t0 t0d t0a t0x t6 hr
      clear hT hB hii hw9 hnext hbyte hkl hwl hnn hn1 hT6 hB6
      have HH : Hid ((x : Int) = (x : Int)) := rfl
      have hy2 : y = (x : Int) / ((256 ^ i : Nat) : Int) % 256 := by rw [hy, byteN_toNat]; omega
      have HR : Hid _ := hr
      clear hr hy HH hi
      rcases (by omega : i = 0 ∨ i = 1 ∨ i = 2 ∨ i = 3) with rfl | rfl | rfl | rfl
      · have hy3 : y = IntKind.u8.wrap (x : Int) := by rw [hy2, IntKind.wrap_u8']; simp
        clear hy2
        subst hy3
        rw [show ((0 : Nat) : Int) = 0 from rfl]
        have hwr : IntKind.i64.wrap 0 = 0 := by decide
        go_upto_region 3 with fail
        go_region_law (refine step_append_run rfl (.tmp 12) (.tmp 18) _ _ rfl _ _ rfl rfl _ _ HR.out ?_)
        all_goals
          go_wp2_with fail
          go_roundw
          case rel => exact ⟨k + 1, hlt, by rw [hki.out]; rfl, ⟨_, by rw [HN.out.1]; exact HB6.out.1⟩, HN.out.2.trans HB6.out.2⟩
          case measure => simp [intOf]
      · have hy3 : y = IntKind.u8.wrap ((x : Int) / 256) := by rw [hy2, IntKind.wrap_u8']; rfl
        clear hy2
        subst hy3
        rw [show ((1 : Nat) : Int) = 1 from rfl]
        have hwr : IntKind.i64.wrap 8 = 8 := by decide
        go_upto_region 3 with fail
        go_region_law (refine step_append_run rfl (.tmp 12) (.tmp 18) _ _ rfl _ _ rfl rfl _ _ HR.out ?_)
        all_goals
          go_wp2_with fail
          go_roundw
          case rel => exact ⟨k + 1, hlt, by rw [hki.out]; rfl, ⟨_, by rw [HN.out.1]; exact HB6.out.1⟩, HN.out.2.trans HB6.out.2⟩
          case measure => simp [intOf]
      · have hy3 : y = IntKind.u8.wrap ((x : Int) / 65536) := by rw [hy2, IntKind.wrap_u8']; rfl
        clear hy2
        subst hy3
        rw [show ((2 : Nat) : Int) = 2 from rfl]
        have hwr : IntKind.i64.wrap 16 = 16 := by decide
        go_upto_region 3 with fail
        go_region_law (refine step_append_run rfl (.tmp 12) (.tmp 18) _ _ rfl _ _ rfl rfl _ _ HR.out ?_)
        all_goals
          go_wp2_with fail
          go_roundw
          case rel => exact ⟨k + 1, hlt, by rw [hki.out]; rfl, ⟨_, by rw [HN.out.1]; exact HB6.out.1⟩, HN.out.2.trans HB6.out.2⟩
          case measure => simp [intOf]
      · have hy3 : y = IntKind.u8.wrap ((x : Int) / 16777216) := by rw [hy2, IntKind.wrap_u8']; rfl
        clear hy2
        subst hy3
        rw [show ((3 : Nat) : Int) = 3 from rfl]
        have hwr : IntKind.i64.wrap 24 = 24 := by decide
        go_upto_region 3 with fail
        go_region_law (refine step_append_run rfl (.tmp 12) (.tmp 18) _ _ rfl _ _ rfl rfl _ _ HR.out ?_)
        all_goals
          go_wp2_with fail
          go_roundw
          case rel => exact ⟨k + 1, hlt, by rw [hki.out]; rfl, ⟨_, by rw [HN.out.1]; exact HB6.out.1⟩, HN.out.2.trans HB6.out.2⟩
          case measure => simp [intOf]
    · have h8 : (highD size x).take k = highD size x := List.take_of_length_le (by rw [highD_len]; omega)
      rw [h8] at hT
      have HP : Hid ((∃ v', TextM wr B tb v' (l ++ highD size x)) ∧ Below B w wr) := ⟨⟨v', hT⟩, hB⟩
      have hk0 : (size : Int) - 1 - k = -1 := by omega
      rw [hk0]
      clear hT hB
      go_wp2_with fail
      refine bodyPost_end (results_none rfl _ _ _) rfl ?_
      exact ⟨rfl, HP.out⟩
end Go.Proofs.YtbppimahedbpoaaDoor

/-
  The document's answer for the set of numbers (SetOf of package fingerpostref1), by a contract.
-/
import Derived.Test.YtfajpkdpnpdfkaaGreatDoorXDM
import Derived.Test.YtfajpkdpnpdfkaaGreatDoorXMM
import Derived.Deep.OwnRows
namespace Go.Proofs.YtfajpkdpnpdfkaaGreatDoor
open Go.RowKit Go.Extern.Stop Go.Stop Go.Extern Go.Sort

theorem Tryz.infoBool : (Tryz.prog.info? 4).map (fun i => (i.zero, i.size, i.bytes)) = some (some (.bool false), 1, 1) := by kernel_rfl

def falses : Array Value := madeCells #[.bool false] 1000
theorem falses_at (n : Nat) (h : n < 1000) : falses[n]? = some (.bool false) := by
  unfold falses madeCells
  simp [h, Nat.mod_one]
theorem make_falses (w : World) : (Instr.makeSlice 148 (.int .i64 1000) (.int .i64 1000)).run Tryz.prog w = .ok (.slice (some ⟨w.heap.size, 0, none⟩) 1000 1000) (w.alloc (.cells falses 4)) := by
  obtain ⟨i0, hi, hz0, hz1, hz2⟩ := info_parts Tryz.infoBool
  exact Go.run_make_row (P := Tryz.prog) 148 4 i0 (.bool false) Tryz.underlying148 hi hz0 hz1 rfl .i64 .i64 1000 (by rw [hz2]; omega) (by omega) w

/-- The block B holds, for each number below 1000, whether it is one of zs. -/
def Marks (w : World) (B : Nat) (zs : List Int) : Prop := ∃ cur, w.heap[B]? = some (.cells cur 4 (0, 0)) ∧ ∀ n, n < 1000 → cur[n]? = some (.bool (zs.contains (n : Int)))
theorem Marks.cell {w : World} {B : Nat} {zs : List Int} (h : Marks w B zs) (n : Nat) (hn : n < 1000) : w.cell? ⟨B, n, none⟩ = some (.bool (zs.contains (n : Int))) := by
  obtain ⟨cur, hb, hc⟩ := h
  simp only [World.cell?, hb]
  simpa using hc n hn
theorem Marks.frozen {w : World} {B : Nat} {zs : List Int} (h : Marks w B zs) (n : Nat) : w.frozen? ⟨B, n, none⟩ = false := by
  obtain ⟨cur, hb, hc⟩ := h
  simp [World.frozen?, hb]
theorem Marks.below {w w' : World} {B : Nat} {zs : List Int} (h : Marks w B zs) (hb : Below (B + 1) w w') : Marks w' B zs := by
  obtain ⟨cur, hh, hc⟩ := h
  exact ⟨cur, by rw [hb.block B (by omega)]; exact hh, hc⟩
theorem Marks.store {w : World} {B : Nat} {zs : List Int} (h : Marks w B zs) (z : Int) (h0 : 0 ≤ z) (h1 : z < 1000) : Marks (w.setCell ⟨B, z.toNat, none⟩ (.bool true)) B (zs ++ [z]) := by
  obtain ⟨cur, hb, hc⟩ := h
  refine ⟨cur.setIfInBounds z.toNat (.bool true), ?_, ?_⟩
  · simp [World.setCell, Array.getElem?_modify, hb]
  · intro n hn
    have hsz : n < cur.size := (Array.getElem?_eq_some_iff.1 (hc n hn)).1
    have hz : z.toNat < cur.size := (Array.getElem?_eq_some_iff.1 (hc z.toNat (by omega))).1
    rw [Array.getElem?_setIfInBounds]
    by_cases e : z.toNat = n
    · have : (n : Int) = z := by omega
      rw [if_pos e, if_pos (by omega)]
      simp [this]
    · have hne : (n : Int) ≠ z := by omega
      rw [if_neg e, hc n hn]
      simp [hne]

/-- The members below m. -/
def canonUp (zs : List Int) (m : Nat) : List Int := ((List.range m).filter fun n : Nat => zs.contains (n : Int)).map fun n : Nat => (n : Int)
theorem canonUp_length (zs : List Int) (m : Nat) : (canonUp zs m).length ≤ m := by
  unfold canonUp
  rw [List.length_map]
  exact Nat.le_trans (List.length_filter_le _ _) (by simp)
theorem canonUp_yes (zs : List Int) (m : Nat) (h : zs.contains (m : Int) = true) : canonUp zs (m + 1) = canonUp zs m ++ [(m : Int)] := by
  unfold canonUp
  rw [List.range_succ, List.filter_append, List.filter_cons_of_pos (p := fun n : Nat => zs.contains (n : Int)) h, List.filter_nil, List.map_append]
  rfl
theorem canonUp_no (zs : List Int) (m : Nat) (h : zs.contains (m : Int) = false) : canonUp zs (m + 1) = canonUp zs m := by
  unfold canonUp
  rw [List.range_succ, List.filter_append, List.filter_cons_of_neg (by rw [h]; exact Bool.false_ne_true), List.filter_nil, List.append_nil]

set_option maxRecDepth 100000 in
set_option maxHeartbeats 2000000 in
theorem ref_setOf_own (zs : List Int) (v : Value) (w : World) (hm : zs.length ≤ 1000000) (h : IsInts w v zs) (hin : InB zs) :
    Calls Tryz.prog 64 #[v] w fun e w' => ∃ v', e = .returned v' ∧ w'.ownsRow (w.heap.size + 1) 3 1 v' (canon zs).length ((canon zs).map (Value.int .i64)) ∧ Below w.heap.size w w' := by
  have HI : Hid (InB zs) := hin
  have H : Hid (IsInts w v zs) := h
  obtain ⟨va, vc, rfl⟩ := h.form
  have hmk := make_falses w
  clear hin h
  generalize hn : zs.length = n at *
  have HN : Hid (zs.length = n) := hn
  clear hn
  go_enter Tryz.func64, Tryz.ntmps64
  go_wp2_with fail
  clear hmk
  go_loopw [4] (fun t wr => ∃ k : Nat, k ≤ n ∧ t = .int .i64 k ∧ Marks wr w.heap.size (zs.take k) ∧ Below w.heap.size w wr ∧ w.heap.size < wr.heap.size) (fun t _ => (n - intOf t).toNat)
  case atStart => exact ⟨0, Nat.zero_le _, rfl, ⟨falses, heap_newS _ _, fun n hn => by rw [falses_at n hn]; simp⟩, (Below.refl _ _).alloc (Nat.le_refl _) _, by simp⟩
  case round =>
    obtain ⟨k, hk, rfl, hM, hB, hz⟩ := hrel
    have HM : Hid (Marks wr w.heap.size (zs.take k)) := hM
    clear hM
    by_cases hlt : k < n
    · rcases H.out with ⟨hzn, _⟩ | ⟨hzn, b, o, c, hv, hc⟩
      · exfalso; have := HN.out; rw [hzn] at this; simp at this; omega
      obtain ⟨rfl, _⟩ : va = some ⟨b, o, none⟩ ∧ True := ⟨by simpa using (Value.slice.inj hv).1, trivial⟩
      have e1 := cell_keep hB (hc k (by rw [HN.out]; exact hlt))
      have e2 := HI.out k (by rw [HN.out]; exact hlt)
      obtain ⟨z, hze⟩ : ∃ z, z = zs.getD k 0 := ⟨_, rfl⟩
      rw [← hze] at e1 e2
      have HZ : Hid (z = zs.getD k 0) := hze
      obtain ⟨e3, e4⟩ := e2
      have e5 := HM.out.cell z.toNat (by omega)
      have e6 := HM.out.frozen z.toNat
      clear hze hv hc hzn
      generalize (zs.take k).contains ((z.toNat : Nat) : Int) = bb at e5
      go_wp2_with fail
      go_roundw
      case rel =>
        refine ⟨k + 1, hlt, by go_num, ?_, hB.setCell (Nat.le_refl _) _, by simpa [World.setCell] using hz⟩
        rw [take_succ_getD zs k (by rw [HN.out]; exact hlt), ← HZ.out]
        exact HM.out.store z e3 e4
      case measure => simp [intOf]; omega
    · have hkn : k = zs.length := by rw [HN.out]; omega
      have HM2 : Hid (Marks wr w.heap.size zs) := by
        have := HM.out
        rw [hkn, List.take_length] at this
        exact this
      clear hkn
      clear HM
      obtain ⟨w0, rfl⟩ : ∃ w0, w0 = wr := ⟨_, rfl⟩
      have hz1 : w.heap.size + 1 ≤ w0.heap.size := hz
      go_wp2_with fail
      clear hlt hk
      go_loopw [5, 6] (fun u t wt => ∃ m : Nat, m ≤ 1000 ∧ t = .int .i64 m ∧ wt.ownsRow (w.heap.size + 1) 3 1 u (canonUp zs m).length ((canonUp zs m).map (Value.int .i64)) ∧ Below (w.heap.size + 1) w0 wt) (fun _ t _ => (1000 - intOf t).toNat)
      case atStart => exact ⟨0, Nat.zero_le _, rfl, World.ownsRow_nil _ _ _ _, Below.refl _ _⟩
      case round =>
        obtain ⟨m, hm2, rfl, ho, hBt⟩ := hrel
        have HO : Hid (wr.ownsRow (w.heap.size + 1) 3 1 u5 (canonUp zs m).length ((canonUp zs m).map (Value.int .i64))) := ho
        have hlen := canonUp_length zs m
        clear ho
        by_cases hlt : m < 1000
        · have e1 := (HM2.out.below hBt).cell m hlt
          cases hc : zs.contains (m : Int) with
          | true =>
            rw [hc] at e1
            have HC : Hid (zs.contains (m : Int) = true) := hc
            clear hc
            have ho2 : (wr.alloc (.cells #[.int .i64 m] 3)).ownsRow (w.heap.size + 1) 3 1 u5 (canonUp zs m).length ((canonUp zs m).map (Value.int .i64)) := HO.out.alloc _
            have hsz : w.heap.size + 1 ≤ (wr.alloc (.cells #[.int .i64 m] 3)).heap.size := by have := hBt.size; simp; omega
            obtain ⟨v', w2, hr, ho3, hg⟩ := run_append_ints (wr.alloc (.cells #[.int .i64 m] 3)) (w.heap.size + 1) u5 _ _ ho2 (.slice (some ⟨wr.heap.size, 0, none⟩) 1 1) [(m : Int)] (isInts_of_cells rfl (fun j hj => by
              obtain rfl : j = 0 := by simpa using hj
              simp)) (by simp; omega) hsz 42
            have hB2 : Below (w.heap.size + 1) w0 w2 := (hBt.alloc (by have := hBt.size; omega) _).trans (below_of_grownS hg hsz ho2 (Nat.le_refl _))
            have HX : Hid (w2.ownsRow (w.heap.size + 1) 3 1 v' (canonUp zs (m + 1)).length ((canonUp zs (m + 1)).map (Value.int .i64)) ∧ Below (w.heap.size + 1) w0 w2) := by
              refine ⟨?_, hB2⟩
              rw [canonUp_yes zs m HC.out]
              simpa using ho3
            clear ho2 ho3 hg hB2
            go_wp2_with (at_builtin; refine Lib.wpList_append_run _ rfl _ _ _ _ rfl _ _ rfl rfl _ _ hr ?_)
            go_roundw
            case rel => exact ⟨m + 1, hlt, by go_num, HX.out.1, HX.out.2⟩
            case measure => simp [intOf]; omega
          | false =>
            rw [hc] at e1
            have HX : Hid (wr.ownsRow (w.heap.size + 1) 3 1 u5 (canonUp zs (m + 1)).length ((canonUp zs (m + 1)).map (Value.int .i64))) := by
              show World.ownsRow _ _ _ _ _ _ _
              rw [canonUp_no zs m hc]
              exact HO.out
            clear hc
            go_wp2_with fail
            go_roundw
            case rel => exact ⟨m + 1, hlt, by go_num, HX.out, hBt⟩
            case measure => simp [intOf]; omega
        · have hm1 : m = 1000 := by omega
          have HX : Hid (wr.ownsRow (w.heap.size + 1) 3 1 u5 (canon zs).length ((canon zs).map (Value.int .i64)) ∧ Below w.heap.size w wr) := by
            have := HO.out
            rw [hm1] at this
            exact ⟨this, hB.trans (hBt.mono (by omega))⟩
          clear hm1
          go_wp2_with fail
          go_ret
          exact ⟨u5, rfl, HX.out⟩
theorem ref_setOf (zs : List Int) (v : Value) (w : World) (hm : zs.length ≤ 1000000) (h : IsInts w v zs) (hin : InB zs) :
    Calls Tryz.prog 64 #[v] w fun e w' => ∃ v', e = .returned v' ∧ IsInts w' v' (canon zs) ∧ Below w.heap.size w w' :=
  (ref_setOf_own zs v w hm h hin).mono fun _ _ ⟨v', h1, h2, h3⟩ => ⟨v', h1, isInts_of_owns h2, h3⟩
end Go.Proofs.YtfajpkdpnpdfkaaGreatDoor

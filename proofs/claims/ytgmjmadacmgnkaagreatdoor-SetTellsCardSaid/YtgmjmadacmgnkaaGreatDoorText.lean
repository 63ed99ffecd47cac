/-
  Package set: Text of a set, by a contract.
-/
import Derived.Test.YtgmjmadacmgnkaaGreatDoorSetE
import Derived.Test.YtgmjmadacmgnkaaGreatDoorSetMath
import Derived.Deep.OwnRows
import Derived.WalkSmall
namespace Go.Proofs.YtgmjmadacmgnkaaGreatDoor
open Go.RowKit Go.Extern.Stop Go.Stop Go.Extern Go.Sort

theorem Tryz.infoString : (Tryz.prog.info? 9).map (fun i => (i.zero, i.size, i.bytes)) = some (some (.string ⟨#[]⟩), 1, 16) := by kernel_rfl
theorem make_strings (n : Nat) (hn : n ≤ 1000000) (w : World) : (Instr.makeSlice 51 (.int .i64 (n : Int)) (.int .i64 (n : Int))).run Tryz.prog w = .ok (.slice (some ⟨w.heap.size, 0, none⟩) n n) (w.alloc (.cells (madeCells #[.string ⟨#[]⟩] n) 9)) := by
  obtain ⟨i0, hi, hz0, hz1, hz2⟩ := info_parts Tryz.infoString
  exact Go.run_make_row (P := Tryz.prog) 51 9 i0 (.string ⟨#[]⟩) Tryz.underlying51 hi hz0 hz1 rfl .i64 .i64 n (by rw [hz2]; omega) (by omega) w

/-- A number as text. -/
def num (z : Int) : ByteArray := ⟨(Lib.itoa z).toArray⟩
/-- A set as text. -/
def setText (zs : List Int) : List UInt8 := [123] ++ Lib.join (zs.map Lib.itoa) [44] ++ [125]

/-- The block B holds n texts, the first k of them those of zs. -/
def Words (w : World) (B n : Nat) (zs : List Int) : Prop := ∃ cur : Array Value, w.heap[B]? = some (.cells cur 9 (0, 0)) ∧ cur.size = n ∧ (∀ j : Nat, j < n → ∃ s : ByteArray, cur[j]? = some (Value.string s)) ∧ ∀ (j : Nat) (z : Int), zs[j]? = some z → cur[j]? = some (Value.string (num z))
theorem Words.below {w w' : World} {B n : Nat} {zs : List Int} (h : Words w B n zs) (hb : Below (B + 1) w w') : Words w' B n zs := by
  obtain ⟨cur, hh, r⟩ := h
  exact ⟨cur, by rw [hb.block B (by omega)]; exact hh, r⟩
theorem Words.cell {w : World} {B n : Nat} {zs : List Int} (h : Words w B n zs) (j : Nat) (hj : j < n) : ∃ s, w.cell? ⟨B, j, none⟩ = some (.string s) := by
  obtain ⟨cur, hh, hs, hall, r⟩ := h
  obtain ⟨s, e⟩ := hall j hj
  exact ⟨s, by simp only [World.cell?, hh]; simpa using e⟩
theorem Words.read {w : World} {B n : Nat} {zs : List Int} (h : Words w B n zs) (j : Nat) (z : Int) (hj : zs[j]? = some z) : w.cell? ⟨B, j, none⟩ = some (.string (num z)) := by
  obtain ⟨cur, hh, hs, hall, r⟩ := h
  simp only [World.cell?, hh]
  simpa using r j z hj
theorem Words.frozen {w : World} {B n : Nat} {zs : List Int} (h : Words w B n zs) (j : Nat) : w.frozen? ⟨B, j, none⟩ = false := by
  obtain ⟨cur, hh, _⟩ := h
  simp [World.frozen?, hh]
theorem Words.store {w : World} {B n k : Nat} {zs : List Int} (h : Words w B n (zs.take k)) (hk : k < n) : Words (w.setCell ⟨B, k, none⟩ (.string (num (zs.getD k 0)))) B n (zs.take (k + 1)) := by
  obtain ⟨cur, hh, hs, hall, r⟩ := h
  refine ⟨cur.setIfInBounds k (.string (num (zs.getD k 0))), ?_, by simpa using hs, ?_, ?_⟩
  · simp [World.setCell, Array.getElem?_modify, hh]
  · intro j hj
    rw [Array.getElem?_setIfInBounds]
    by_cases e : k = j
    · rw [if_pos e, if_pos (by omega)]; exact ⟨_, rfl⟩
    · rw [if_neg e]; exact hall j hj
  · intro j z hj
    rw [Array.getElem?_setIfInBounds]
    by_cases e : k = j
    · subst e
      rw [if_pos rfl, if_pos (by omega)]
      rw [List.getElem?_take, if_pos (by omega)] at hj
      simp [List.getD, hj]
    · rw [if_neg e]
      refine r j z ?_
      rw [List.getElem?_take] at hj ⊢
      have : j < k + 1 := by
        by_cases g : j < k + 1
        · exact g
        · rw [if_neg g] at hj; cases hj
      rw [if_pos this] at hj
      rw [if_pos (by omega)]
      exact hj

theorem itoa_le (z : Int) (h0 : 0 ≤ z) (h1 : z < 1000) : (Lib.itoa z).length ≤ 3 := by
  unfold Lib.itoa
  rw [if_neg (by omega)]
  have hu : z.toNat < 1000 := by omega
  generalize z.toNat = u at hu
  rw [Lib.decDigits]
  by_cases h : u < 10
  · rw [dif_pos h]; simp
  · rw [dif_neg h, Lib.decDigits]
    by_cases h2 : u / 10 < 10
    · rw [dif_pos h2]; simp
    · rw [dif_neg h2, Lib.decDigits, dif_pos (by omega)]; simp
theorem joinTail_le (r : List (List UInt8)) (h : ∀ x ∈ r, x.length ≤ 3) : (Lib.joinTail [44] r).length ≤ 4 * r.length := by
  induction r with
  | nil => simp [Lib.joinTail]
  | cons x r ih =>
    have h1 := ih (fun y hy => h y (List.mem_cons_of_mem _ hy))
    have h2 := h x (List.mem_cons_self ..)
    unfold Lib.joinTail at h1 ⊢
    simp only [List.map_cons, List.flatten_cons, List.length_append, List.length_cons, List.length_nil] at h1 ⊢
    omega
theorem join_le (xs : List (List UInt8)) (h : ∀ x ∈ xs, x.length ≤ 3) : (Lib.join xs [44]).length ≤ 4 * xs.length := by
  cases xs with
  | nil => simp [Lib.join_nil]
  | cons x r =>
    rw [Lib.join_cons, List.length_append]
    have := joinTail_le r (fun y hy => h y (List.mem_cons_of_mem _ hy))
    have := h x (List.mem_cons_self ..)
    simp only [List.length_cons]
    omega

theorem ba_append (a b : Array UInt8) : (⟨a⟩ : ByteArray) ++ ⟨b⟩ = ⟨a ++ b⟩ := by
  apply ByteArray.ext
  simp

abbrev Pow (w : World) : Prop := Lib.TabIs Tryz.prog w "internal/strconv.uint64pow10" .u64 Lib.pow10Tab
theorem Tryz.gPow : Tryz.prog.globalNamed "internal/strconv.uint64pow10" = some 12 := by kernel_rfl
theorem pow_below {w w' : World} (h : Pow w) (hz : 12 < w.heap.size) (hb : Below w.heap.size w w') : Pow w' := var?_below hb Tryz.gPow hz h
theorem pow_lt {w : World} (h : Pow w) : 12 < w.heap.size := by
  have := World.var?_cell Tryz.gPow h 0
  exact lt_of_cell (v := .int .u64 1) (by simpa [Lib.pow10Tab] using this)

set_option maxHeartbeats 2000000 in
set_option maxRecDepth 100000 in
theorem text_ok (zs : List Int) (v : Value) (w : World) (hm : zs.length ≤ 100000) (h : IsInts w v zs) (hs : IsSet zs) (ht : Pow w) :
    Calls Tryz.prog 20 #[v] w fun e w' => e = .returned (.string ⟨(setText zs).toArray⟩) ∧ Below w.heap.size w w' := by
  have H : Hid (IsInts w v zs) := h
  have HS : Hid (IsSet zs) := hs
  have HT : Hid (Pow w) := ht
  have HK : Hid (Calls Tryz.prog 11 #[v] w fun e w' => e = .returned .nilIface ∧ Below w.heap.size w w') := check_ok zs v w (by omega) h hs.1 hs.2
  obtain ⟨va, vc, rfl⟩ := h.form
  clear h hs ht
  obtain ⟨n, hn⟩ : ∃ n, n = zs.length := ⟨_, rfl⟩
  rw [← hn] at H HK hm ⊢
  have HN : Hid (n = zs.length) := hn
  clear hn
  have hmk := make_strings n (by omega)
  go_enter Tryz.func20, Tryz.ntmps20
  go_wp2_with fail
  refine HK.out.mono ?_
  rintro e w1 ⟨rfl, hB1⟩
  go_wp2_with fail
  clear hmk
  have hw1 : w.heap.size ≤ w1.heap.size := hB1.size
  go_loopw [14] (fun t wr => ∃ k : Nat, k ≤ n ∧ t = .int .i64 k ∧ Words wr w1.heap.size n (zs.take k) ∧ Below w.heap.size w wr ∧ w1.heap.size < wr.heap.size) (fun t _ => (n - intOf t).toNat)
  case atStart =>
    refine ⟨0, Nat.zero_le _, rfl, ⟨_, heap_new _ _, size_madeCells _ _, fun j hj => ⟨⟨#[]⟩, ?_⟩, fun j z hj => by simp at hj⟩, hB1.alloc hB1.size _, by simp⟩
    unfold madeCells
    simp [hj, Nat.mod_one]
  case round =>
    obtain ⟨k, hk, rfl, hW, hB, hz⟩ := hrel
    have HW : Hid (Words wr w1.heap.size n (zs.take k)) := hW
    clear hW
    by_cases hlt : k < n
    · rcases H.out with ⟨hzn, _⟩ | ⟨hzn, b, o, c, hv, hc⟩
      · exfalso; have := HN.out; rw [hzn] at this; simp at this; omega
      obtain rfl : va = some ⟨b, o, none⟩ := by simpa using (Value.slice.inj hv).1
      have hkz : k < zs.length := by rw [← HN.out]; exact hlt
      have e1 := cell_keep hB (hc k hkz)
      have e2 := HS.out.1 k hkz
      obtain ⟨z, hze⟩ : ∃ z, z = zs.getD k 0 := ⟨_, rfl⟩
      rw [← hze] at e1 e2
      have HZ : Hid (z = zs.getD k 0) := hze
      obtain ⟨e3, e4⟩ := e2
      have hP : Pow wr := pow_below HT.out (pow_lt HT.out) hB
      have HP : Hid (Pow wr) := hP
      clear hze hv hc hzn hkz hP
      go_wp2_with fail
      refine (Tryz.strconv_Itoa z (by omega) (by omega) wr HP.out).mono ?_
      rintro e w2 ⟨rfl, q, os, hw2⟩
      have hB2 : Below wr.heap.size wr w2 := by rw [hw2]; exact below_grow (below_drewN (Below.refl _ _) q) (Nat.le_refl _)
      clear hw2
      have HW2 : Hid (Words w2 w1.heap.size n (zs.take k)) := HW.out.below (hB2.mono (by omega))
      obtain ⟨s0, e5⟩ := HW2.out.cell k hlt
      have e6 := HW2.out.frozen k
      have hBw2 : Below w.heap.size w w2 := hB.trans (hB2.mono hB.size)
      have hz2 : w1.heap.size < w2.heap.size := Nat.lt_of_lt_of_le hz hB2.size
      clear hB2
      go_wp2_with fail
      go_roundw
      case rel =>
        refine ⟨k + 1, hlt, by go_num, ?_, hBw2.setCell hw1 _, by simpa [World.setCell] using hz2⟩
        have := HW2.out.store hlt
        rw [← HZ.out] at this
        exact this
      case measure => simp [intOf]; omega
    · have hkn : k = zs.length := by rw [← HN.out]; omega
      have HW2 : Hid (Words wr w1.heap.size n zs) := by
        have := HW.out
        rw [hkn, List.take_length] at this
        exact this
      clear HW hkn
      by_cases h0 : n = 0
      · have hzs : zs = [] := List.eq_nil_of_length_eq_zero (by rw [← HN.out]; exact h0)
        have HZS : Hid (zs = []) := hzs
        clear hzs
        subst h0
        go_wp2_with fail
        refine (Tryz.strings_Join_none _ _ _ _).mono ?_
        rintro e w2 ⟨rfl, rfl⟩
        go_wp2_with fail
        go_ret
        refine ⟨?_, hB⟩
        rw [HZS.out]
        rfl
      · have hJ := Tryz.strings_Join w1.heap.size 0 n (zs.map num) ⟨#[44]⟩ wr (fun j x hj => by
          rw [List.getElem?_map] at hj
          obtain ⟨z, hz1, rfl⟩ := Option.map_eq_some_iff.1 hj
          rw [Nat.zero_add]
          exact HW2.out.read j z hz1) hz (by rw [List.length_map, ← HN.out]; omega) (by rw [List.length_map, ← HN.out]; exact Nat.le_refl _)
        have hmap : (zs.map num).map (·.data.toList) = zs.map Lib.itoa := by
          rw [List.map_map]
          exact List.map_congr_left (fun z _ => rfl)
        have hjl := join_le (zs.map Lib.itoa) (fun x hx => by
          obtain ⟨z, hz1, rfl⟩ := List.mem_map.1 hx
          have := inB_iff.1 HS.out.1 z hz1
          exact itoa_le z this.1 this.2)
        rw [hmap, List.length_map, ← HN.out] at hJ
        rw [List.length_map, ← HN.out] at hjl
        have hJ2 := hJ (by show (Lib.join (zs.map Lib.itoa) [44]).length ≤ _; omega)
        obtain ⟨jn, hjn⟩ : ∃ jn, jn = Lib.join (zs.map Lib.itoa) [44] := ⟨_, rfl⟩
        have HJ : Hid (Calls Tryz.prog 39 #[.slice (some ⟨w1.heap.size, 0, none⟩) n n, .string ⟨#[44]⟩] wr fun e w' => e = .returned (.string ⟨jn.toArray⟩) ∧ Below wr.heap.size wr w') := by
          rw [hjn]; exact hJ2
        have hjn4 : jn.length ≤ 400000 := by rw [hjn]; omega
        have HJN : Hid (jn = Lib.join (zs.map Lib.itoa) [44]) := hjn
        clear hJ hJ2 hjl hjn hmap
        go_wp2_with fail
        refine Calls.mono HJ.out ?_
        rintro e w2 ⟨rfl, hB2⟩
        go_wp2_with fail
        go_ret
        refine ⟨?_, hB.trans (hB2.mono hB.size)⟩
        show Ending.returned (.string ((⟨#[123]⟩ : ByteArray) ++ ⟨jn.toArray⟩ ++ ⟨#[125]⟩)) = _
        rw [ba_append, ba_append, HJN.out]
        simp [setText]
end Go.Proofs.YtgmjmadacmgnkaaGreatDoor

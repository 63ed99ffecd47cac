/-
  Package frame: the sum, by contracts.
-/
import Derived.Test.YtbppimahedbpoaaDoorNA
import Derived.Laws.BitsAllLaws
import Derived.Laws.IdiomStrings
import Derived.Laws.BytesArg
namespace Go.Proofs.YtbppimahedbpoaaDoor
open Go.RowKit Go.Extern.Stop Go.Stop Go.Extern

/-- What is kept: all blocks but some. -/
structure KeepN (w w' : World) (p : Nat → Prop) : Prop where
  keep : ∀ (k : Nat) (o : Obj), w.heap[k]? = some o → ¬ p k → w'.heap[k]? = some o
  os : w'.os = w.os
  tape : w'.tape = w.tape
  output : w'.output = w.output
  size : w.heap.size ≤ w'.heap.size
theorem KeepN.of_below {w w' : World} (h : Below w.heap.size w w') (p : Nat → Prop) : KeepN w w' p := ⟨fun _ _ q _ => block_keep h q, h.os, h.tape, h.output, h.size⟩
theorem KeepN.refl (w : World) (p : Nat → Prop) : KeepN w w p := ⟨fun _ _ q _ => q, rfl, rfl, rfl, Nat.le_refl _⟩
theorem KeepN.trans {w w1 w2 : World} {p : Nat → Prop} (h1 : KeepN w w1 p) (h2 : KeepN w1 w2 p) : KeepN w w2 p :=
  ⟨fun k o q hn => h2.keep k o (h1.keep k o q hn) hn, h2.os.trans h1.os, h2.tape.trans h1.tape, h2.output.trans h1.output, Nat.le_trans h1.size h2.size⟩
theorem KeepN.mono {w w1 : World} {p q : Nat → Prop} (h : KeepN w w1 p) (hq : ∀ k, p k → q k) : KeepN w w1 q := ⟨fun k o x hn => h.keep k o x fun e => hn (hq k e), h.os, h.tape, h.output, h.size⟩
theorem KeepN.below {w w1 : World} {p : Nat → Prop} (h : KeepN w w1 p) {B : Nat} (hB : ∀ k, p k → B ≤ k) : (hb : B ≤ w.heap.size) → Below B w w1 := fun hb =>
  ⟨h.os, h.tape, h.output, h.size, fun k hk => by
    obtain ⟨o, ho⟩ : ∃ o, w.heap[k]? = some o := ⟨w.heap[k]'(Nat.lt_of_lt_of_le hk hb), Array.getElem?_eq_getElem _⟩
    rw [ho]
    exact h.keep k o ho fun e => absurd (hB k e) (Nat.not_le.2 hk)⟩
theorem keepN_set (w : World) (b i : Nat) (x : Value) (p : Nat → Prop) (hp : p b) : KeepN w (w.setCell ⟨b, i, none⟩ x) p :=
  ⟨fun k o q hn => by
    have : k ≠ b := fun e => hn (e ▸ hp)
    rw [← q]
    simp [World.setCell, Array.getElem?_modify, Ne.symm this], rfl, rfl, rfl, by simp [World.setCell]⟩

abbrev TU32 : TypeId := 41
theorem u32_step (c : Nat) (hc : c < 4294967296) : bits .xor .u32 ((c : Int) / 2) (3988292384 * bits .and .u32 (c : Int) 1 % 4294967296) = ((stepC c : Nat) : Int) := by
  have h1 : bits .and .u32 (c : Int) 1 = ((c % 2 : Nat) : Int) := by
    rw [show (1 : Int) = ((1 : Nat) : Int) from rfl, u32_and_nat c 1 hc (by decide), Nat.and_one_is_mod]
  rw [h1]
  have h2 : (3988292384 * ((c % 2 : Nat) : Int)) % 4294967296 = (((if c % 2 = 1 then polyN else 0) : Nat) : Int) := by
    split
    · rename_i q; rw [q]; rfl
    · rename_i q
      have : c % 2 = 0 := by omega
      rw [this]; rfl
  rw [h2, show (c : Int) / 2 = ((c / 2 : Nat) : Int) by omega, u32_xor_nat _ _ (by omega) (by split <;> decide)]
  rfl
set_option maxRecDepth 100000 in
set_option maxHeartbeats 4000000 in
theorem bring_any (w : World) (lb c : Nat) (b : UInt8) (hc : c < 4294967296) (hl : w.heap[lb]? = some (.cells #[.int .u32 (c : Int)] TU32 (0, 0))) :
    Calls Tryd.prog 41 #[.int .u8 (b.toNat : Int), .pointer (some ⟨lb, 0, none⟩)] w fun e w' => e = .returned (.tuple #[]) ∧ w'.heap[lb]? = some (.cells #[.int .u32 ((bringC c b : Nat) : Int)] TU32 (0, 0)) ∧ KeepN w w' (· = lb) := by
  obtain ⟨bn, hbn⟩ : ∃ n, n = b.toNat := ⟨_, rfl⟩
  have hb8 : bn < 256 := by rw [hbn]; exact b.toNat_lt
  have HW : Hid (w.heap[lb]? = some (.cells #[.int .u32 (c : Int)] TU32 (0, 0)) ∧ bn = b.toNat ∧ c < 4294967296) := ⟨hl, hbn, hc⟩
  have c0 : w.cell? ⟨lb, 0, none⟩ = some (.int .u32 (c : Int)) := by rw [Lib.cell_of_heap hl]; rfl
  have f0 : w.frozen? ⟨lb, 0, none⟩ = false := Lib.frozen_of_heap hl 0
  have hx : bits .xor .u32 (c : Int) (bn : Int) = ((c ^^^ bn : Nat) : Int) := u32_xor_nat c bn hc (by omega)
  obtain ⟨d, hd⟩ : ∃ d, d = c ^^^ bn := ⟨_, rfl⟩
  have HD : Hid (d = c ^^^ b.toNat ∧ d < 4294967296) := ⟨by rw [hd, hbn], by rw [hd, hbn]; exact xor_u8_lt hc b⟩
  rw [← hd] at hx
  rw [← hbn]
  clear hl hbn hc hd
  go_enter Tryd.func41, Tryd.ntmps41
  go_wp2_with fail
  have H0 : Hid ((w.setCell ⟨lb, 0, none⟩ (.int .u32 (d : Int))).heap[lb]? = some (.cells #[.int .u32 ((stepsC 0 d : Nat) : Int)] TU32 (0, 0)) ∧ KeepN w (w.setCell ⟨lb, 0, none⟩ (.int .u32 (d : Int))) (· = lb)) := ⟨by rw [set_block _ _ _ _ _ _ HW.out.1]; rfl, keepN_set _ _ _ _ _ rfl⟩
  clear c0 f0 hx
  go_loopw [7] (fun t wr => ∃ k : Nat, k ≤ 8 ∧ t = .int .i64 k ∧ wr.heap[lb]? = some (.cells #[.int .u32 ((stepsC k d : Nat) : Int)] TU32 (0, 0)) ∧ KeepN w wr (· = lb)) (fun t _ => (8 - intOf t).toNat)
  case atStart => exact ⟨0, Nat.zero_le _, rfl, H0.out⟩
  case round =>
    clear H0
    obtain ⟨k, hk, rfl, hh, hkp⟩ := hrel
    by_cases hlt : k < 8
    · have hki : (k : Int) < 8 := by omega
      have HR : Hid (wr.heap[lb]? = some (.cells #[.int .u32 ((stepsC k d : Nat) : Int)] TU32 (0, 0)) ∧ KeepN w wr (· = lb)) := ⟨hh, hkp⟩
      obtain ⟨x, hx⟩ : ∃ x, x = stepsC k d := ⟨_, rfl⟩
      have HX : Hid (x = stepsC k d ∧ x < 4294967296) := ⟨hx, by rw [hx]; exact stepsC_lt HD.out.2 k⟩
      rw [← hx] at hh
      have c0 : wr.cell? ⟨lb, 0, none⟩ = some (.int .u32 (x : Int)) := by rw [Lib.cell_of_heap hh]; rfl
      have f0 : wr.frozen? ⟨lb, 0, none⟩ = false := Lib.frozen_of_heap hh 0
      have hs := u32_step x HX.out.2
      clear hh hkp hx
      go_wp2_with fail
      go_roundw
      case rel => exact ⟨k + 1, hlt, by go_num, by rw [set_block _ _ _ _ _ _ HR.out.1, HX.out.1]; rfl, HR.out.2.trans (keepN_set _ _ _ _ _ rfl)⟩
      case measure => simp [intOf]; omega
    · have h8 : k = 8 := by omega
      subst h8
      have HP : Hid (wr.heap[lb]? = some (.cells #[.int .u32 ((bringC c b : Nat) : Int)] TU32 (0, 0)) ∧ KeepN w wr (· = lb)) := ⟨by rw [hh, HD.out.1]; rfl, hkp⟩
      clear hh hkp
      go_wp2_with fail
      refine bodyPost_end (results_none rfl _ _ _) rfl ?_
      exact ⟨rfl, HP.out⟩
theorem below1 (w : World) (o : Obj) : Below w.heap.size w (w.alloc o) := (Below.refl _ w).alloc (Nat.le_refl _) _
theorem rest_any (w : World) (lb : Nat) (v : Value) (hl : w.heap[lb]? = some (.cells #[v] TU32 (0, 0))) :
    Calls Tryd.prog 42 #[.pointer (some ⟨lb, 0, none⟩)] w fun e w' => e = .returned v ∧ w' = w := by
  have c0 : w.cell? ⟨lb, 0, none⟩ = some v := by rw [Lib.cell_of_heap hl]; rfl
  clear hl
  go_enter Tryd.func42, Tryd.ntmps42
  go_wp2_with fail
  go_ret
  exact ⟨rfl, rfl⟩
abbrev bringV (lb : Nat) : Value := .func (Fn.func 41) #[] #[.pointer (some ⟨lb, 0, none⟩)]
abbrev restV (lb : Nat) : Value := .func (Fn.func 42) #[] #[.pointer (some ⟨lb, 0, none⟩)]
theorem division_any (w : World) : Calls Tryd.prog 34 #[] w fun e w' => e = .returned (.tuple #[bringV w.heap.size, restV w.heap.size]) ∧ w' = w.alloc (.cells #[.int .u32 4294967295] TU32) := by
  go_enter Tryd.func34, Tryd.ntmps34
  go_wp2_with fail
  go_ret2
  exact ⟨rfl, rfl⟩
theorem getD_dataN (s : ByteArray) (k : Nat) (h : k < s.size) : s.data.toList.getD k 0 = s[k] := by
  have hl : k < s.data.toList.length := by rw [← Lib.size_eq]; exact h
  simp only [List.getD, List.getElem?_eq_getElem hl, Option.getD_some]
  rfl
theorem restC_snoc (l : Bs) (k : Nat) (h : k < l.length) (c : Nat) : restC (l.take (k + 1)) c = bringC (restC (l.take k) c) (l.getD k 0) := by
  unfold restC
  rw [List.take_succ_eq_append_getElem h, List.foldl_append]
  simp [List.getD, h]
set_option maxRecDepth 100000 in
set_option maxHeartbeats 4000000 in
theorem sum_any (s : ByteArray) (w : World) (hs : s.size ≤ 1000000) : Calls Tryd.prog 16 #[.string s] w fun e w' => e = .returned (.int .u32 ((crcD s.data.toList : Nat) : Int)) ∧ Below w.heap.size w w' := by
  obtain ⟨lb, hlb⟩ : ∃ b, b = w.heap.size := ⟨_, rfl⟩
  obtain ⟨l, hl⟩ : ∃ l, l = s.data.toList := ⟨_, rfl⟩
  have KD : Hid (Calls Tryd.prog 34 #[] w fun e w' => e = .returned (.tuple #[bringV lb, restV lb]) ∧ w'.heap[lb]? = some (.cells #[.int .u32 ((restC (l.take 0) 4294967295 : Nat) : Int)] TU32 (0, 0)) ∧ KeepN w w' (· = lb)) := by
    refine (division_any w).mono ?_
    rintro e w' ⟨rfl, rfl⟩
    rw [hlb]
    exact ⟨rfl, heap_new w _, KeepN.of_below (below1 w _) _⟩
  have HL : Hid (lb = w.heap.size ∧ l = s.data.toList ∧ l.length = s.size) := ⟨hlb, hl, by rw [hl, ← Lib.size_eq]⟩
  have HG : Hid (∀ k (h : k < s.size), l.getD k 0 = s[k]) := fun k h => by rw [hl]; exact getD_dataN s k h
  rw [← hl]
  clear hlb hl
  go_enter Tryd.func16, Tryd.ntmps16
  go_wp2_with fail
  refine KD.out.mono ?_
  rintro e w1 ⟨rfl, h1, k1⟩
  have H1 : Hid (w1.heap[lb]? = some (.cells #[.int .u32 ((restC (l.take 0) 4294967295 : Nat) : Int)] TU32 (0, 0)) ∧ KeepN w w1 (· = lb)) := ⟨h1, k1⟩
  clear KD h1 k1
  go_wp2_with fail
  go_loopw [12] (fun t wr => ∃ k : Nat, k ≤ s.size ∧ t = .int .i64 k ∧ wr.heap[lb]? = some (.cells #[.int .u32 ((restC (l.take k) 4294967295 : Nat) : Int)] TU32 (0, 0)) ∧ KeepN w wr (· = lb)) (fun t _ => (s.size - intOf t).toNat)
  case atStart => exact ⟨0, Nat.zero_le _, rfl, H1.out⟩
  case round =>
    clear H1
    obtain ⟨k, hk, rfl, hh, hkp⟩ := hrel
    by_cases hlt : k < s.size
    · have hki : (k : Int) < s.size := by omega
      have KB : Hid (Calls Tryd.prog 41 #[.int .u8 ((s[k]'hlt).toNat : Int), .pointer (some ⟨lb, 0, none⟩)] wr fun e w' => e = .returned (.tuple #[]) ∧ w'.heap[lb]? = some (.cells #[.int .u32 ((restC (l.take (k + 1)) 4294967295 : Nat) : Int)] TU32 (0, 0)) ∧ KeepN w w' (· = lb)) := by
        refine (bring_any wr lb _ (s[k]'hlt) (restC_lt _ (by decide)) hh).mono ?_
        rintro e w' ⟨rfl, q1, q2⟩
        exact ⟨rfl, by rw [restC_snoc l k (by rw [HL.out.2.2]; exact hlt), HG.out k hlt]; exact q1, hkp.trans q2⟩
      clear hh hkp
      go_wp2_with fail
      refine KB.out.mono ?_
      rintro e w2 ⟨rfl, q1, q2⟩
      have H2 : Hid (w2.heap[lb]? = some (.cells #[.int .u32 ((restC (l.take (k + 1)) 4294967295 : Nat) : Int)] TU32 (0, 0)) ∧ KeepN w w2 (· = lb)) := ⟨q1, q2⟩
      clear q1 q2 KB
      go_wp2_with fail
      go_roundw
      case rel => exact ⟨k + 1, hlt, by go_num, H2.out⟩
      case measure => simp [intOf]; omega
    · have h8 : l.take k = l := List.take_of_length_le (by rw [HL.out.2.2]; omega)
      rw [h8] at hh
      obtain ⟨x, hx⟩ : ∃ x, x = restC l 4294967295 := ⟨_, rfl⟩
      have hxl : x < 4294967296 := by rw [hx]; exact restC_lt l (by decide)
      have hcrc : bits .xor .u32 (x : Int) 4294967295 = ((crcD l : Nat) : Int) := by
        rw [show (4294967295 : Int) = ((4294967295 : Nat) : Int) from rfl, u32_xor_nat x _ hxl (by decide), hx]; rfl
      rw [← hx] at hh
      have KR : Hid (Calls Tryd.prog 42 #[.pointer (some ⟨lb, 0, none⟩)] wr fun e w' => e = .returned (.int .u32 (x : Int)) ∧ w' = wr) := rest_any wr lb _ hh
      have HB : Hid (Below w.heap.size w wr) := hkp.below (fun k hk => by rw [hk, HL.out.1]; exact Nat.le_refl _) (Nat.le_refl _)
      clear hh hkp hx h8
      go_wp2_with fail
      refine KR.out.mono ?_
      rintro e w2 ⟨rfl, rfl⟩
      go_wp2_with fail
      go_ret
      exact ⟨rfl, HB.out⟩
set_option maxRecDepth 100000 in
set_option maxHeartbeats 4000000 in
theorem sumText_any (s : ByteArray) (w : World) (hs : s.size ≤ 1000000) : Calls Tryd.prog 21 #[.string s] w fun e w' => e = .returned (.string (S (lowD (crcD s.data.toList)))) ∧ Below w.heap.size w w' := by
  obtain ⟨c, hc⟩ : ∃ c, c = crcD s.data.toList := ⟨_, rfl⟩
  have K : Hid (Calls Tryd.prog 16 #[.string s] w fun e w' => e = .returned (.int .u32 (c : Int)) ∧ Below w.heap.size w w') := by
    show Calls _ _ _ _ _
    rw [hc]; exact sum_any s w hs
  have hcl : c < 4294967296 := by rw [hc]; exact crcD_lt _
  rw [← hc]
  obtain ⟨txt, htxt⟩ : ∃ t, t = S (lowD c) := ⟨_, rfl⟩
  have KC : Hid (∀ w1 : World, (convert 46 9 (.slice (some ⟨w1.heap.size, 0, none⟩) 4 4)).run Tryd.prog (w1.alloc (.cells #[.int .u8 ((c : Int) % 256), .int .u8 ((c : Int) / 256 % 256), .int .u8 ((c : Int) / 65536 % 256), .int .u8 ((c : Int) / 16777216)] 5)) = .ok (.string txt) (w1.alloc (.cells #[.int .u8 ((c : Int) % 256), .int .u8 ((c : Int) / 256 % 256), .int .u8 ((c : Int) / 65536 % 256), .int .u8 ((c : Int) / 16777216)] 5))) := fun w1 => by
    have hcv := run_convert_bytes_back (P := Tryd.prog) (w1.alloc (.cells #[.int .u8 ((c : Int) % 256), .int .u8 ((c : Int) / 256 % 256), .int .u8 ((c : Int) / 65536 % 256), .int .u8 ((c : Int) / 16777216)] 5)) 46 9 5 ⟨w1.heap.size, 0, none⟩ 4 (lowD c) Tryd.underlying46 Tryd.underlying5 Tryd.underlying9 (fun j hj => by
      have h4 : (lowD c).length = 4 := rfl
      have hn := heap_new w1 (.cells #[.int .u8 ((c : Int) % 256), .int .u8 ((c : Int) / 256 % 256), .int .u8 ((c : Int) / 65536 % 256), .int .u8 ((c : Int) / 16777216)] 5)
      rw [Addr.add_lit, Nat.zero_add, Lib.cell_of_heap hn]
      rcases (by omega : j = 0 ∨ j = 1 ∨ j = 2 ∨ j = 3) with rfl | rfl | rfl | rfl
      · show some (Value.int .u8 ((c : Int) % 256)) = some (.int .u8 ((byteN c).toNat : Int))
        rw [byteN_toNat]; rfl
      · show some (Value.int .u8 ((c : Int) / 256 % 256)) = some (.int .u8 ((byteN (c / 256)).toNat : Int))
        rw [byteN_toNat]; rfl
      · show some (Value.int .u8 ((c : Int) / 65536 % 256)) = some (.int .u8 ((byteN (c / 65536)).toNat : Int))
        rw [byteN_toNat]; rfl
      · show some (Value.int .u8 ((c : Int) / 16777216)) = some (.int .u8 ((byteN (c / 16777216)).toNat : Int))
        rw [byteN_toNat, Nat.mod_eq_of_lt (by omega)]; rfl)
    rw [htxt]; exact hcv
  rw [← htxt]
  clear hc htxt
  go_enter Tryd.func21, Tryd.ntmps21
  go_wp2_with fail
  refine K.out.mono ?_
  rintro e w1 ⟨rfl, hb⟩
  have HB : Hid (Below w.heap.size w w1) := hb
  have hcv2 := KC.out w1
  clear hb K KC
  go_wp2_with fail
  go_ret
  exact ⟨rfl, HB.out.trans ((below1 w1 _).mono HB.out.size)⟩
end Go.Proofs.YtbppimahedbpoaaDoor

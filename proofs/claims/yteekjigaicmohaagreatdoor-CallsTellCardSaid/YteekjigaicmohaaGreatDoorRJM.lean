/-
  Package run: values, (*machine).state, by contracts.
-/
import Derived.Test.YteekjigaicmohaaGreatDoorZRM
namespace Go.Proofs.YteekjigaicmohaaGreatDoor
open Go.RowKit Go.Extern.Stop Go.Stop Go.Extern

theorem below_set {w0 w : World} {b i : Nat} {x : Value} (h : Below w0.heap.size w0 w) (hb : w0.heap.size ≤ b) : Below w0.heap.size w0 (w.setCell ⟨b, i, none⟩ x) := h.setCell hb x
/-- A []Value that reads as os. -/
def IsVals (w : World) (v : Value) (os : List (Option Ref)) : Prop :=
  ∃ g c, v = .slice (some ⟨g, 0, none⟩) os.length c ∧ ∀ j, j < os.length → w.cell? ⟨g, j * 2, none⟩ = some (.string (valK (os.getD j none))) ∧ w.cell? ⟨g, j * 2 + 1, none⟩ = some (.int .i64 (valN (os.getD j none)))
theorem IsVals.below {w w' : World} {v : Value} {os : List (Option Ref)} (h : IsVals w v os) (hb : Below w.heap.size w w') : IsVals w' v os := by
  obtain ⟨g, c, e, q⟩ := h
  exact ⟨g, c, e, fun j hj => ⟨cell_keep hb (q j hj).1, cell_keep hb (q j hj).2⟩⟩
theorem IsVals.set {w : World} {g n c : Nat} {os : List (Option Ref)} (h : IsVals w (.slice (some ⟨g, 0, none⟩) n c) os) {b i : Nat} {x : Value} (hne : g ≠ b) : IsVals (w.setCell ⟨b, i, none⟩ x) (.slice (some ⟨g, 0, none⟩) n c) os := by
  obtain ⟨g', c', e, q⟩ := h
  cases e
  exact ⟨g, c, rfl, fun j hj => ⟨other_cell (q j hj).1 hne, other_cell (q j hj).2 hne⟩⟩
def zeroC (c : Nat) : Value := if c % 2 = 0 then .string ⟨#[]⟩ else .int .i64 0
def oneC (o : Option Ref) (c : Nat) : Value := if c % 2 = 0 then .string (valK o) else .int .i64 (valN o)
def valC (os : List (Option Ref)) (k c : Nat) : Value := if c / 2 < k then oneC (os.getD (c / 2) none) c else zeroC c
theorem Tryz.infoValue : (Tryz.prog.info? 80).map (fun i => (i.zero, i.size, i.bytes)) = some (some (.agg #[.string ⟨#[]⟩, .int .i64 0]), 2, 24) := by kernel_rfl
theorem made2 (n c : Nat) (h : c < n * 2) : (madeCells #[.string ⟨#[]⟩, .int .i64 0] (n * 2))[c]? = some (zeroC c) := by
  unfold madeCells zeroC
  simp only [Array.getElem?_map, Array.getElem?_range]
  rw [if_pos h]
  simp only [Option.map_some]
  by_cases e : c % 2 = 0
  · rw [if_pos e]; simp [e]
  · have e' : c % 2 = 1 := by omega
    rw [if_neg e]; simp [e']
theorem make_values (n : Nat) (hn : n ≤ 1000000) (w : World) : (Instr.makeSlice 73 (.int .i64 (n : Int)) (.int .i64 (n : Int))).run Tryz.prog w = .ok (.slice (some ⟨w.heap.size, 0, none⟩) n n) (w.alloc (.cells (madeCells #[.string ⟨#[]⟩, .int .i64 0] (n * 2)) 80)) := by
  obtain ⟨i, hi, hz, hs, hb⟩ := info_parts Tryz.infoValue
  have := run_make (P := Tryz.prog) w 73 80 i _ Tryz.underlying73 hi hz .i64 .i64 n n (by omega) (Int.le_refl _) (by rw [hb]; omega) (by omega)
  simp only [Int.toNat_natCast, hs] at this
  exact this
theorem row_made2 (w : World) (n : Nat) : (w.alloc (.cells (madeCells #[.string ⟨#[]⟩, .int .i64 0] (n * 2)) 80)).rowIs w.heap.size 80 (n * 2) zeroC := by
  have := World.rowIs_alloc w (madeCells #[.string ⟨#[]⟩, .int .i64 0] (n * 2)) 80 zeroC (fun i hi => made2 n i (by rw [size_madeCells] at hi; exact hi))
  rw [size_madeCells] at this
  exact this

set_option maxRecDepth 100000 in
set_option maxHeartbeats 4000000 in
theorem values_any (l : Lay) (B : Nat) (v : Value) (n : Nat) (bs : List Nat) (os : List (Option Ref)) (w : World) (hbl : bs.length = n) (hol : os.length = n) (hn : n ≤ 1000000) (ho : w.ownsRow B 176 1 v n (bs.map ptrV)) (hc : ∀ i, i < n → w.cell? ⟨bs.getD i 0, 2, none⟩ = some (hasV l (os.getD i none)))
    (hr : ∀ i, i < n → ∀ r, os.getD i none = some r → w.cell? ⟨l.at r, 0, none⟩ = some (.string (refKind r)) ∧ w.cell? ⟨l.at r, 1, none⟩ = some (.int .i64 (refNo r : Int))) :
    Calls Tryz.prog 130 #[v] w fun e w' => e = .returned (.slice (some ⟨w.heap.size, 0, none⟩) n n) ∧ IsVals w' (.slice (some ⟨w.heap.size, 0, none⟩) n n) os ∧ Below w.heap.size w w' := by
  obtain ⟨va, vc, rfl⟩ := owns_form ho
  have HV : Hid (∀ i, i < n → ∃ g, va = some ⟨g, 0, none⟩ ∧ w.cell? ⟨g, i, none⟩ = some (ptrV (bs.getD i 0))) := by
    intro i hi
    rcases ho.2 with ⟨q, e⟩ | ⟨g, cap, cur, hv, hg, hh, hcap, hmax, hsz, hcur⟩
    · omega
    · cases hv
      refine ⟨g, rfl, ?_⟩
      rw [Lib.cell_of_heap hh]
      have h1 : (cur.toList.take (n * 1))[i]? = (bs.map ptrV)[i]? := by rw [hcur]
      rw [List.getElem?_take_of_lt (by omega)] at h1
      simp only [Array.getElem?_toList] at h1
      rw [h1]
      simp [hbl, hi, List.getD]
  have HC : Hid (∀ i, i < n → w.cell? ⟨bs.getD i 0, 2, none⟩ = some (hasV l (os.getD i none))) := hc
  have HR : Hid (∀ i, i < n → ∀ r, os.getD i none = some r → w.cell? ⟨l.at r, 0, none⟩ = some (.string (refKind r)) ∧ w.cell? ⟨l.at r, 1, none⟩ = some (.int .i64 (refNo r : Int))) := hr
  have hmk := make_values n hn
  have hrow0 := row_made2 w n
  have HO : Hid (os.length = n) := hol
  clear ho hc hr hbl hol
  go_enter Tryz.func130, Tryz.ntmps130
  go_wp2_with fail
  clear hmk
  go_loopw [11] (fun t wr => ∃ k : Nat, k ≤ n ∧ t = .int .i64 k ∧ wr.rowIs w.heap.size 80 (n * 2) (valC os k) ∧ Below w.heap.size w wr) (fun t _ => (n - intOf t).toNat)
  case atStart => exact ⟨0, Nat.zero_le _, rfl, hrow0.congr fun j hj => by unfold valC; rw [if_neg (Nat.not_lt_zero _)], below1 w _⟩
  case round =>
    obtain ⟨k, hk, rfl, hrow, hwr⟩ := hrel
    by_cases hlt : k < n
    · obtain ⟨g, rfl, e0⟩ := HV.out k hlt
      unfold ptrV at e0
      replace e0 := cell_keep hwr e0
      obtain ⟨o, hoo⟩ : ∃ o, o = os.getD k none := ⟨_, rfl⟩
      have HK : Hid (Calls Tryz.prog 160 #[.pointer (some ⟨bs.getD k 0, 0, none⟩)] wr fun e w' => e = .returned (.agg #[.string (valK o), .int .i64 (valN o)]) ∧ Below wr.heap.size wr w') := by
        have := value_any l (bs.getD k 0) o wr (by rw [hoo]; exact cell_keep hwr (HC.out k hlt)) (fun r hr => by rw [hoo] at hr; exact ⟨cell_keep hwr (HR.out k hlt r hr).1, cell_keep hwr (HR.out k hlt r hr).2⟩)
        exact this
      obtain ⟨b, hb⟩ : ∃ b, b = bs.getD k 0 := ⟨_, rfl⟩
      rw [← hb] at e0 HK
      obtain ⟨vk, hvk⟩ : ∃ x, x = valK o := ⟨_, rfl⟩
      obtain ⟨vn, hvn⟩ : ∃ x, x = valN o := ⟨_, rfl⟩
      rw [← hvk, ← hvn] at HK
      have HOO : Hid (o = os.getD k none ∧ vk = valK o ∧ vn = valN o) := ⟨hoo, hvk, hvn⟩
      have hki : (k : Int) < n := by omega
      have HRW : Hid (wr.rowIs w.heap.size 80 (n * 2) (valC os k)) := hrow
      clear hrow hrow0 hoo hb hvk hvn
      go_wp2_with (go_at_call 160; refine HK.out.mono ?_; rintro e w3 ⟨rfl, hB3⟩; have hrow3 : w3.rowIs w.heap.size 80 (n * 2) (valC os k) := HRW.out.of_block (hB3.block _ HRW.out.lt); have z0 := hrow3.cell (i := k * 2) (by omega); have z1 := hrow3.cell (i := k * 2 + 1) (by omega); have zf := hrow3.frozen (k * 2); have zg := hrow3.frozen (k * 2 + 1); have HR3 : Hid (w3.rowIs w.heap.size 80 (n * 2) (valC os k)) := hrow3; clear hrow3)
      go_roundw
      case rel =>
        refine ⟨k + 1, hlt, by go_num, ((HR3.out.set (k * 2) _).set (k * 2 + 1) _).congr fun c hcc => ?_, ((hwr.trans (hB3.mono hwr.size)).setCell (Nat.le_refl _) _).setCell (Nat.le_refl _) _⟩
        obtain ⟨o1, o2, o3⟩ := HOO.out
        unfold valC oneC
        by_cases q1 : c = k * 2 + 1
        · rw [if_pos q1, if_pos (by omega), show c / 2 = k by omega, if_neg (by omega), ← o1, o3]
        · rw [if_neg q1]
          by_cases q2 : c = k * 2
          · rw [if_pos q2, if_pos (by omega), show c / 2 = k by omega, if_pos (by omega), ← o1, o2]
          · rw [if_neg q2]
            by_cases q3 : c / 2 < k
            · have q4 : c / 2 < k + 1 := by omega
              rw [if_pos q3, if_pos q4]
            · have q4 : ¬ c / 2 < k + 1 := by omega
              rw [if_neg q3, if_neg q4]
      case measure => simp [intOf]; omega
    · have hkn : k = n := by omega
      subst hkn
      have HRW : Hid (wr.rowIs w.heap.size 80 (k * 2) (valC os k)) := hrow
      clear hrow hrow0
      go_wp2_with fail
      go_ret
      refine ⟨rfl, ⟨w.heap.size, k, by rw [HO.out], fun j hj => ?_⟩, hwr⟩
      rw [HO.out] at hj
      have z0 := HRW.out.cell (i := j * 2) (by omega)
      have z1 := HRW.out.cell (i := j * 2 + 1) (by omega)
      unfold valC at z0 z1
      rw [if_pos (by omega), show j * 2 / 2 = j by omega] at z0
      rw [if_pos (by omega), show (j * 2 + 1) / 2 = j by omega] at z1
      unfold oneC at z0 z1
      rw [if_pos (by omega)] at z0
      rw [if_neg (by omega)] at z1
      exact ⟨z0, z1⟩

theorem mach_vals {w w' : World} {B Bt mb n1 n2 : Nat} {s : StD} {l : Lay} {v1 v2 v3 xv xf xt xp : Value} (h0 : Mach w B Bt mb n1 n2 s l v1 v2 v3 xv xf xt xp) (hb : Below w.heap.size w w') (hn1 : n1 ≤ 1000000) : Calls Tryz.prog 130 #[xv] w' fun e w2 => e = .returned (.slice (some ⟨w'.heap.size, 0, none⟩) n1 n1) ∧ IsVals w2 (.slice (some ⟨w'.heap.size, 0, none⟩) n1 n1) s.vars ∧ Below w'.heap.size w' w2 := by
  have h := h0.below hb
  refine values_any l B xv n1 l.vb s.vars w' h.lv h.ls hn1 h.rv (fun i hi => ?_) (fun i hi r hr => ?_)
  · exact (cell_kind (h.cells (.var i) hi)).2.2.1
  · have := cell_kind (h.cells r (h.get_ok (.var i) r hr))
    exact ⟨this.1, this.2.1⟩
theorem mach_things {w w' : World} {B Bt mb n1 n2 : Nat} {s : StD} {l : Lay} {v1 v2 v3 xv xf xt xp : Value} (h0 : Mach w B Bt mb n1 n2 s l v1 v2 v3 xv xf xt xp) (hb : Below w.heap.size w w') (hth : s.things.length ≤ 1000000) : Calls Tryz.prog 130 #[xt] w' fun e w2 => e = .returned (.slice (some ⟨w'.heap.size, 0, none⟩) s.things.length s.things.length) ∧ IsVals w2 (.slice (some ⟨w'.heap.size, 0, none⟩) s.things.length s.things.length) s.things ∧ Below w'.heap.size w' w2 := by
  have h := h0.below hb
  refine values_any l Bt xt s.things.length l.tb s.things w' h.lt rfl hth h.rt (fun i hi => ?_) (fun i hi r hr => ?_)
  · exact (cell_kind (h.cells (.thing i) hi)).2.2.1
  · have := cell_kind (h.cells r (h.get_ok (.thing i) r hr))
    exact ⟨this.1, this.2.1⟩

set_option maxRecDepth 100000 in
set_option maxHeartbeats 4000000 in
theorem state_any {w : World} {B Bt mb n1 n2 : Nat} {s : StD} {l : Lay} {v1 v2 v3 xv xf xt xp : Value} (h : Mach w B Bt mb n1 n2 s l v1 v2 v3 xv xf xt xp) (hn1 : n1 ≤ 1000000) (hth : s.things.length ≤ 1000000) :
    Calls Tryz.prog 81 #[.pointer (some ⟨mb, 0, none⟩)] w fun e w' => ∃ g1 g2, e = .returned (.agg #[.slice (some ⟨g1, 0, none⟩) n1 n1, .slice (some ⟨g2, 0, none⟩) s.things.length s.things.length, xp]) ∧ IsVals w' (.slice (some ⟨g1, 0, none⟩) n1 n1) s.vars ∧ IsVals w' (.slice (some ⟨g2, 0, none⟩) s.things.length s.things.length) s.things ∧ w.heap.size ≤ g1 ∧ w.heap.size ≤ g2 ∧ Below w.heap.size w w' := by
  obtain ⟨-, -, -, c3, -, c5, c6⟩ := h.cellsM
  obtain ⟨W, hW⟩ : ∃ W, W = w.alloc (.cells #[.slice none 0 0, .slice none 0 0, .slice none 0 0] 75) := ⟨_, rfl⟩
  have hBW : Below w.heap.size w W := by rw [hW]; exact below1 w _
  have hbox : W.heap[w.heap.size]? = some (.cells #[.slice none 0 0, .slice none 0 0, .slice none 0 0] 75 (0, 0)) := by rw [hW]; exact heap_new w _
  have KV : Hid (∀ wx, Below W.heap.size W wx → Calls Tryz.prog 130 #[xv] wx fun e w2 => e = .returned (.slice (some ⟨wx.heap.size, 0, none⟩) n1 n1) ∧ IsVals w2 (.slice (some ⟨wx.heap.size, 0, none⟩) n1 n1) s.vars ∧ Below wx.heap.size wx w2) := fun wx hwx => mach_vals h (hBW.trans (hwx.mono hBW.size)) hn1
  have KT : Hid (∀ wx, Below W.heap.size W wx → Calls Tryz.prog 130 #[xt] wx fun e w2 => e = .returned (.slice (some ⟨wx.heap.size, 0, none⟩) s.things.length s.things.length) ∧ IsVals w2 (.slice (some ⟨wx.heap.size, 0, none⟩) s.things.length s.things.length) s.things ∧ Below wx.heap.size wx w2) := fun wx hwx => mach_things h (hBW.trans (hwx.mono hBW.size)) hth
  obtain ⟨va, vc, rfl⟩ := owns_form h.rv
  obtain ⟨ta, tc, rfl⟩ := owns_form h.rt
  obtain ⟨pa, pc, rfl⟩ := owns_form h.rp
  obtain ⟨nt, hnt⟩ : ∃ n, n = s.things.length := ⟨_, rfl⟩
  obtain ⟨np, hnp⟩ : ∃ n, n = s.places.length := ⟨_, rfl⟩
  rw [← hnt] at c5 KT ⊢
  rw [← hnp] at c6 ⊢
  have HBX : Hid (W.heap[w.heap.size]? = some (.cells #[.slice none 0 0, .slice none 0 0, .slice none 0 0] 75 (0, 0))) := hbox
  clear h hnt hnp hbox hth
  go_enter Tryz.func81, Tryz.ntmps81
  go_upto_region 1 with fail
  have hBZ : Hid (w.heap.size < W.heap.size) := by show _ < _; rw [hW]; simp
  rw [← hW]
  clear hW
  go_region_held3 (fun wx => Below w.heap.size w wx ∧ wx.cell? ⟨mb, 3, none⟩ = some (.slice va n1 vc) ∧ wx.cell? ⟨mb, 5, none⟩ = some (.slice ta nt tc) ∧ wx.cell? ⟨mb, 6, none⟩ = some (.slice pa np pc))
    ((go_split_ands; refine keep3 c3 c5 c6 ?_; repeat (with_reducible first | assumption | exact Below.refl _ _ | refine Below.drew ?_ | refine below_al ?_ _ | refine below_set ?_ (Nat.le_refl _))))
    (first
      | (go_at_call 130; have hguard := hb5.size; clear hguard; refine (KT.out _ hb5).mono ?_; rintro e w6 ⟨rfl, f2, f3⟩; have F2 : Hid (IsVals w6 (.slice (some ⟨w5.heap.size, 0, none⟩) nt nt) s.things) := f2; clear f2; have hb6 : Below W.heap.size W w6 := hb5.trans (f3.mono hb5.size); have hs6 : Below w.heap.size w w6 := hBW.trans (hb6.mono hBW.size); have hbx := block_keep hb6 HBX.out; have hbf := frozen_of_block hbx; have hbc0 : w6.cell? ⟨w.heap.size, 0, none⟩ = some (.slice none 0 0) := (by rw [Lib.cell_of_heap hbx]; rfl); have hbc1 : w6.cell? ⟨w.heap.size, 1, none⟩ = some (.slice none 0 0) := (by rw [Lib.cell_of_heap hbx]; rfl); have hbc2 : w6.cell? ⟨w.heap.size, 2, none⟩ = some (.slice none 0 0) := (by rw [Lib.cell_of_heap hbx]; rfl); have HB6 : Hid (w6.heap[w.heap.size]? = some (.cells #[.slice none 0 0, .slice none 0 0, .slice none 0 0] 75 (0, 0))) := hbx; clear hbx)
      | (go_at_call 130; refine (KV.out _ (Below.refl _ W).drew).mono ?_; rintro e w5 ⟨rfl, g2, g3⟩; have G2 : Hid (IsVals w5 (.slice (some ⟨W.heap.size, 0, none⟩) n1 n1) s.vars) := g2; clear g2; have hb5 : Below W.heap.size W w5 := Below.trans (Below.refl _ W).drew (Below.mono g3 (Nat.le_refl _)); have hs5 : Below w.heap.size w w5 := hBW.trans (hb5.mono hBW.size)))
  obtain ⟨W7, hW7⟩ : ∃ W7, W7 = ((w6.setCell ⟨w.heap.size, 0, none⟩ (.slice (some ⟨W.heap.size, 0, none⟩) n1 n1)).setCell ⟨w.heap.size, 1, none⟩ (.slice (some ⟨w5.heap.size, 0, none⟩) nt nt)).setCell ⟨w.heap.size, 2, none⟩ (.slice pa np pc) := ⟨_, rfl⟩
  have hz := hBZ.out
  have z5 := hb5.size
  have n5 : W.heap.size ≠ w.heap.size := by omega
  have n6 : w5.heap.size ≠ w.heap.size := by omega
  have hres := res_cells HB6.out (.slice (some ⟨W.heap.size, 0, none⟩) n1 n1) (.slice (some ⟨w5.heap.size, 0, none⟩) nt nt) (.slice pa np pc)
  have HV1 : Hid (IsVals W7 (.slice (some ⟨W.heap.size, 0, none⟩) n1 n1) s.vars) := by
    show IsVals _ _ _
    rw [hW7]
    exact (((G2.out.below f3).set n5).set n5).set n5
  have HV2 : Hid (IsVals W7 (.slice (some ⟨w5.heap.size, 0, none⟩) nt nt) s.things) := by
    show IsVals _ _ _
    rw [hW7]
    exact ((F2.out.set n6).set n6).set n6
  have HB7 : Hid (Below w.heap.size w W7) := by
    show Below _ _ _
    rw [hW7]
    exact below_set (below_set (below_set hs6 (Nat.le_refl _)) (Nat.le_refl _)) (Nat.le_refl _)
  rw [← hW7] at hres ⊢
  clear hW7
  obtain ⟨r0, r1, r2⟩ := hres
  go_wp2_with fail
  refine bodyPost_ret (v := .agg #[.slice (some ⟨W.heap.size, 0, none⟩) n1 n1, .slice (some ⟨w5.heap.size, 0, none⟩) nt nt, .slice pa np pc]) (by simp [results, Tryz.results81, go_sem, r0, r1, r2]) rfl ?_
  exact ⟨_, _, rfl, HV1.out, HV2.out, by omega, by omega, HB7.out⟩
end Go.Proofs.YteekjigaicmohaaGreatDoor

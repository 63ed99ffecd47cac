/-
  Package prog: finder, each at names, Clone, cutList, by contracts.
-/
import Derived.Test.YtakmmpbkojhmhaaGreatDoorPK
import Derived.Test.YtakmmpbkojhmhaaGreatDoorPMem
import Derived.Test.YtakmmpbkojhmhaaGreatDoorShelfB
namespace Go.Proofs.YtakmmpbkojhmhaaGreatDoor
open Go.RowKit Go.Extern.Stop Go.Stop Go.Extern

theorem idxFromS_map (l : List Bs) (x : Bs) : ∀ i, Lib.idxFromS (l.map S) (S x) i = idxFrom i l x := by
  induction l with
  | nil => intro i; rfl
  | cons y r ih =>
    intro i
    rw [List.map_cons, Lib.idxFromS, idxFrom, ih]
    by_cases h : y = x
    · rw [if_pos h, if_pos (by rw [h])]
    · rw [if_neg h, if_neg (fun e => h (S_inj e))]
theorem idx_eq (l : List Bs) (x : Bs) : Lib.idxOfS (l.map S) (S x) = idx l x := idxFromS_map l x 0

theorem indexS_any (ss : List Bs) (v : Value) (x : Bs) (w : World) (hm : ss.length ≤ 1000000) (h : IsStrs w v ss) :
    Calls Tryz.prog 173 #[v, .string (S x)] w fun e w' => e = .returned (.int .i64 (idx ss x)) ∧ w' = w := by
  obtain ⟨a, c, rfl, -, hc⟩ := h
  cases hs : ss with
  | nil =>
    exact Tryz.slices_Index_string_empty a c (S x) w
  | cons y r =>
    obtain ⟨b, o, rfl, _⟩ := hc 0 (by rw [hs]; simp)
    rw [← hs]
    have := Tryz.slices_Index_string b o ss.length c (ss.map S) (S x) w (by rw [List.length_map]; exact Nat.le_refl _) (by omega) (fun j hj => by
      rw [List.length_map] at hj
      obtain ⟨b', o', e1, e2⟩ := hc j hj
      cases e1
      rw [getD_mapS ss j hj]; exact e2)
    rw [List.take_of_length_le (by rw [List.length_map]; exact Nat.le_refl _), idx_eq] at this
    exact this
abbrev finderF (nb : Nat) : Value := .func (Fn.func 198) #[] #[.pointer (some ⟨nb, 0, none⟩)]
theorem finder1_any (ns : List Bs) (x : Bs) (nb : Nat) (w : World) (hm : ns.length ≤ 1000000) (h : NamesAt w nb ns) :
    Calls Tryz.prog 198 #[.string (S x), .pointer (some ⟨nb, 0, none⟩)] w fun e w' => e = .returned (.int .i64 (idx ns x)) ∧ w' = w := by
  obtain ⟨sv, hc, hs⟩ := h
  have HK : Hid (Calls Tryz.prog 173 #[sv, .string (S x)] w fun e w' => e = .returned (.int .i64 (idx ns x)) ∧ w' = w) := indexS_any ns sv x w hm hs
  obtain ⟨a, c, rfl, -, -⟩ := hs
  obtain ⟨R, hR⟩ : ∃ R, R = idx ns x := ⟨_, rfl⟩
  rw [← hR] at HK ⊢
  clear hR
  go_enter Tryz.func198, Tryz.ntmps198
  go_wp2_with fail
  refine HK.out.mono ?_
  rintro e w1 ⟨rfl, hw⟩
  obtain rfl := hw.symm
  go_wp2_with fail
  go_ret
  exact ⟨rfl, rfl⟩
theorem finder_any (ns : List Bs) (v : Value) (w : World) (h : IsStrs w v ns) :
    Calls Tryz.prog 178 #[v] w fun e w' => ∃ nb, e = .returned (finderF nb) ∧ NamesAt w' nb ns ∧ Below w.heap.size w w' := by
  have H : Hid (IsStrs w v ns) := h
  obtain ⟨a, c, rfl, -, -⟩ := h
  go_enter Tryz.func178, Tryz.ntmps178
  go_wp2
  go_ret
  exact ⟨w.heap.size, rfl, ⟨_, by simp, H.out.below (below1 w _)⟩, below1 w _⟩
theorem clone_any (s : ByteArray) (w : World) (h : s.size ≤ 1000000000) : Calls Tryz.prog 176 #[.string s] w fun e w' => e = .returned (.string s) ∧ Below w.heap.size w w' := by
  have HK : Hid (Calls Tryz.prog 197 #[.string s] w fun e w' => e = .returned (.string s) ∧ Below w.heap.size w w') := Tryz.stringslite_Clone s w (by omega)
  clear h
  go_enter Tryz.func176, Tryz.ntmps176
  go_wp2_with fail
  refine HK.out.mono ?_
  rintro e w1 ⟨rfl, hB⟩
  go_wp2_with fail
  go_ret
  exact ⟨rfl, hB⟩

set_option maxRecDepth 100000 in
set_option maxHeartbeats 2000000 in
theorem eachSI (ns : List Bs) (zs : List Bs) (v : Value) (nb : Nat) (w : World) (hm : ns.length ≤ 1000000) (hm2 : zs.length ≤ 1000000) (h : IsStrs w v zs) (hn : NamesAt w nb ns) :
    Calls Tryz.prog 179 #[v, finderF nb] w fun e w' => ∃ v', e = .returned v' ∧ w'.ownsRow w.heap.size 3 1 v' (zs.map (idx ns)).length ((zs.map (idx ns)).map intV) ∧ Below w.heap.size w w' := by
  have HN : Hid (NamesAt w nb ns) := hn
  obtain ⟨a, c, rfl, -, hc⟩ := h
  have HS : Hid (∀ j, j < zs.length → ∃ b o, a = some ⟨b, o, none⟩ ∧ w.cell? ⟨b, o + j, none⟩ = some (.string (S (zs.getD j [])))) := hc
  clear hc hn
  generalize hnn : zs.length = n at *
  have HL : Hid (zs.length = n) := hnn
  clear hnn
  go_enter Tryz.func179, Tryz.ntmps179
  go_wp2_with fail
  go_loopw [5, 10] (fun u t wr => ∃ k : Nat, k ≤ n ∧ t = .int .i64 k ∧ wr.ownsRow w.heap.size 3 1 u ((zs.take k).map (idx ns)).length (((zs.take k).map (idx ns)).map intV) ∧ Below w.heap.size w wr) (fun _ t _ => (n - intOf t).toNat)
  case atStart => exact ⟨0, Nat.zero_le _, rfl, World.ownsRow_nil _ _ _ _, Below.refl _ _⟩
  case round =>
    obtain ⟨k, hk, rfl, ho, hB⟩ := hrel
    by_cases hlt : k < n
    · have hl : k < zs.length := by rw [HL.out]; exact hlt
      obtain ⟨b, o, rfl, e0⟩ := HS.out k hlt
      have e1 := cell_keep hB e0
      obtain ⟨z, hze⟩ : ∃ z, z = zs.getD k [] := ⟨_, rfl⟩
      have hts : (zs.take (k + 1)).map (idx ns) = (zs.take k).map (idx ns) ++ [idx ns z] := by
        rw [List.take_succ_eq_append_getElem hl, List.map_append, hze]
        simp [List.getD, hl]
      rw [← hze] at e1
      obtain ⟨q, hq⟩ : ∃ q, q = idx ns z := ⟨_, rfl⟩
      obtain ⟨L, hLe⟩ : ∃ L, L = (zs.take k).map (idx ns) := ⟨_, rfl⟩
      rw [← hq, ← hLe] at hts
      rw [← hLe] at ho
      have hLl : L.length ≤ 1000000 := by rw [hLe, List.length_map]; have := List.length_take_le k zs; omega
      have HC : Hid (Calls Tryz.prog 198 #[.string (S z), .pointer (some ⟨nb, 0, none⟩)] wr fun e w' => e = .returned (.int .i64 q) ∧ w' = wr) := by
        rw [hq]; exact finder1_any ns z nb wr hm (HN.out.below hB)
      have HO : Hid (wr.ownsRow w.heap.size 3 1 u5 L.length (L.map intV) ∧ L.length ≤ 1000000 ∧ (zs.take (k + 1)).map (idx ns) = L ++ [q]) := ⟨ho, hLl, hts⟩
      clear hts hq hLe hLl ho hze hl e0
      go_wp2_with fail
      refine HC.out.mono ?_
      rintro e w1 ⟨rfl, hw⟩
      obtain rfl := hw.symm
      obtain ⟨v', w2, hr, ho3, hB3⟩ := append_int wr w.heap.size u5 L HO.out.1 hB.size HO.out.2.1 q 22
      have HX : Hid (w2.ownsRow w.heap.size 3 1 v' ((zs.take (k + 1)).map (idx ns)).length (((zs.take (k + 1)).map (idx ns)).map intV) ∧ Below w.heap.size w w2) := by
        refine ⟨?_, hB.trans hB3⟩
        rw [HO.out.2.2]; exact ho3
      clear ho3 hB3
      go_wp2_with (at_builtin; refine Lib.wpList_append_run _ rfl _ _ _ _ rfl _ _ rfl rfl _ _ hr ?_)
      go_roundw
      case rel => exact ⟨k + 1, hlt, by go_num, HX.out.1, HX.out.2⟩
      case measure => simp [intOf]; omega
    · have HX : Hid (wr.ownsRow w.heap.size 3 1 u5 (zs.map (idx ns)).length ((zs.map (idx ns)).map intV)) := by
        show wr.ownsRow w.heap.size 3 1 u5 (zs.map (idx ns)).length ((zs.map (idx ns)).map intV)
        have hkn : k = zs.length := by rw [HL.out]; omega
        rw [hkn, List.take_length] at ho
        exact ho
      clear ho
      go_wp2_with fail
      go_ret
      exact ⟨u5, rfl, HX.out, hB⟩

/-- bytealg.MaxLen holds a number. -/
def MaxL (w : World) : Prop := ∃ m, w.cell? ⟨13, 0, none⟩ = some (.int .i64 m)
theorem MaxL.below {w w' : World} (h : MaxL w) (hb : Below w.heap.size w w') : MaxL w' := by
  obtain ⟨m, hm⟩ := h
  exact ⟨m, cell_keep hb hm⟩
theorem cut_any (s p : Bs) (w : World) (hs : s.length ≤ 1000000) (hm : MaxL w) :
    Calls Tryz.prog 113 #[.string (S s), .string (S p)] w fun e w' => e = .returned (.tuple #[.string (S (Lib.cut s p).1), .string (S (Lib.cut s p).2.1), .bool (Lib.cut s p).2.2]) ∧ Below w.heap.size w w' := by
  obtain ⟨m, hm⟩ := hm
  refine (Tryz.strings_Cut (S s) (S p) m w (by rw [S_size]; omega) hm).mono ?_
  rw [S_data, S_data]
  rintro e w' ⟨rfl, n, rfl⟩
  exact ⟨rfl, below_drewN (Below.refl _ _) n⟩
/-- A slice in memory that is new since w, or in none. -/
def NewV (w : World) (v : Value) : Prop := ∀ x, v.ownBlock = some x → w.heap.size ≤ x
theorem NewV.mono {w w' : World} {v : Value} (h : NewV w' v) (hb : Below w.heap.size w w') : NewV w v := fun x hx => Nat.le_trans hb.size (h x hx)
theorem newV_nil (w : World) : NewV w (.slice none 0 0) := fun _ h => by cases h
theorem split_any (s : Bs) (w : World) (hs : s.length ≤ 1000000) (hm : MaxL w) :
    Calls Tryz.prog 94 #[.string (S s), .string ⟨#[44, 32]⟩] w fun e w' => ∃ v', e = .returned v' ∧ IsStrs w' v' (Lib.split s sep) ∧ NewV w v' ∧ Below w.heap.size w w' := by
  obtain ⟨m, hm⟩ := hm
  refine (Tryz.strings_Split (S s) ⟨#[44, 32]⟩ m w (by rw [S_size]; omega) hm (by decide)).mono ?_
  rintro e w' ⟨rfl, rfl⟩
  have hlen := Lib.splitB_all ⟨#[44, 32]⟩ (by decide) 0 _ (S s) rfl
  have hdat := Lib.splitB_data ⟨#[44, 32]⟩ 0 (Lib.countB (S s) ⟨#[44, 32]⟩) (S s)
  have hcount : Lib.countB (S s) ⟨#[44, 32]⟩ = Lib.count s sep := by
    show Lib.count (S s).data.toList _ = _
    rw [S_data]; rfl
  have hsp : Lib.split s sep = (Lib.splitB ⟨#[44, 32]⟩ 0 (Lib.countB (S s) ⟨#[44, 32]⟩) (S s)).map (·.data.toList) := by
    rw [hdat, hcount, S_data]; rfl
  obtain ⟨L, hL⟩ : ∃ L, L = Lib.splitB ⟨#[44, 32]⟩ 0 (Lib.countB (S s) ⟨#[44, 32]⟩) (S s) := ⟨_, rfl⟩
  rw [← hL] at hlen hsp ⊢
  refine ⟨_, rfl, ⟨some ⟨w.heap.size, 0, none⟩, Lib.countB (S s) ⟨#[44, 32]⟩ + 1, ?_, ?_, fun j hj => ⟨w.heap.size, 0, rfl, ?_⟩⟩, fun x hx => by cases hx; exact Nat.le_refl _, below1 w _⟩
  · rw [hsp, List.length_map, hlen]
  · rw [hsp, List.length_map, hlen]; exact Nat.le_refl _
  · rw [hsp, List.length_map] at hj
    rw [Nat.zero_add, World.cell?_alloc_at _ _ _ _ (by simp), hsp]
    simp [hj, List.getD, S_of]
theorem cut_len (s p : Bs) : (Lib.cut s p).1.length ≤ s.length ∧ (Lib.cut s p).2.1.length ≤ s.length := by
  unfold Lib.cut
  split
  · exact ⟨List.length_take_le' _ _, by show (s.drop _).length ≤ _; rw [List.length_drop]; omega⟩
  · exact ⟨Nat.le_refl _, Nat.zero_le _⟩
theorem split_length (s : Bs) : (Lib.split s sep).length ≤ s.length + 2 := by
  have h := Lib.splitB_length_le ⟨#[44, 32]⟩ 0 (Lib.count s sep) (S s)
  have hd := Lib.splitB_data ⟨#[44, 32]⟩ 0 (Lib.count s sep) (S s)
  rw [S_data] at hd
  have h2 : (Lib.split s sep).length = (Lib.splitB ⟨#[44, 32]⟩ 0 (Lib.count s sep) (S s)).length := by
    have h4 : (Lib.splitB ⟨#[44, 32]⟩ 0 (Lib.count s sep) (S s)).length = ((Lib.splitB ⟨#[44, 32]⟩ 0 (Lib.count s sep) (S s)).map (fun x : ByteArray => x.data.toList)).length := by rw [List.length_map]
    rw [h4, hd]; rfl
  have h3 := Lib.count_le s sep
  omega
theorem listL_length (s : Bs) : (listL s).length ≤ s.length + 2 := by
  unfold listL
  split
  · simp
  · have h1 := split_length (listI s)
    have h2 := (cut_len (Lib.cut s [40]).2.1 [41]).1
    have h3 := (cut_len s [40]).2
    have h4 : (listI s).length ≤ s.length := Nat.le_trans h2 h3
    omega

set_option maxHeartbeats 4000000 in
theorem cutList_any (s : Bs) (w : World) (hs : s.length ≤ 100000) (hm : MaxL w) :
    Calls Tryz.prog 177 #[.string (S s)] w fun e w' => ∃ lv, e = .returned (.tuple #[.string (S (listN s)), lv, .string (S (listB s)), .bool (listOk s)]) ∧ IsStrs w' lv (listL s) ∧ NewV w lv ∧ Below w.heap.size w w' := by
  have HM : Hid (MaxL w) := hm
  have l1 := cut_len s [40]
  have l2 := cut_len (Lib.cut s [40]).2.1 [41]
  have K1 : Hid (Calls Tryz.prog 113 #[.string (S s), .string ⟨#[40]⟩] w fun e w' => e = .returned (.tuple #[.string (S (listN s)), .string (S (Lib.cut s [40]).2.1), .bool (Lib.cut s [40]).2.2]) ∧ Below w.heap.size w w') := cut_any s [40] w (by omega) hm
  have K2 : Hid (∀ wx, Below w.heap.size w wx → Calls Tryz.prog 113 #[.string (S (Lib.cut s [40]).2.1), .string ⟨#[41]⟩] wx fun e w' => e = .returned (.tuple #[.string (S (listI s)), .string (S (listB s)), .bool (Lib.cut (Lib.cut s [40]).2.1 [41]).2.2]) ∧ Below wx.heap.size wx w') := fun wx hb => cut_any (Lib.cut s [40]).2.1 [41] wx (by omega) (HM.out.below hb)
  have K3 : Hid (∀ wx, Below w.heap.size w wx → (listI s).isEmpty = false → Calls Tryz.prog 94 #[.string (S (listI s)), .string ⟨#[44, 32]⟩] wx fun e w' => ∃ v', e = .returned v' ∧ IsStrs w' v' (listL s) ∧ NewV wx v' ∧ Below wx.heap.size wx w') := fun wx hb he => by
    have : listL s = Lib.split (listI s) sep := by unfold listL; rw [he]; rfl
    rw [this]
    exact split_any (listI s) wx (by have : (listI s).length ≤ (Lib.cut s [40]).2.1.length := l2.1; omega) (HM.out.below hb)
  have hL := listL_length s
  have HL : Hid ((listL s).length ≤ 1000000) := by show (listL s).length ≤ 1000000; omega
  have K4 : Hid (∀ wx, Calls Tryz.prog 100 #[.string (S (listN s))] wx fun e w' => e = .returned (.bool (isNm (listN s))) ∧ w' = wx) := fun wx => isName_any (listN s) wx
  have hI : (listI s).isEmpty = true → listL s = [] := fun e => by unfold listL; rw [e]; rfl
  have HI : Hid ((listI s).isEmpty = true → listL s = []) := hI
  have hok : listOk s = ((Lib.cut s [40]).2.2 && (Lib.cut (Lib.cut s [40]).2.1 [41]).2.2 && isNm (listN s) && (listL s).all isNm) := rfl
  have hie : (S (listI s)).toList.isEmpty = (listI s).isEmpty := by rw [S_toList]
  obtain ⟨O, hO⟩ : ∃ O, O = listOk s := ⟨_, rfl⟩
  obtain ⟨D1, hD1⟩ : ∃ D, D = (Lib.cut s [40]).2.2 := ⟨_, rfl⟩
  obtain ⟨D2, hD2⟩ : ∃ D, D = (Lib.cut (Lib.cut s [40]).2.1 [41]).2.2 := ⟨_, rfl⟩
  obtain ⟨D3, hD3⟩ : ∃ D, D = isNm (listN s) := ⟨_, rfl⟩
  obtain ⟨D4, hD4⟩ : ∃ D, D = (listL s).all isNm := ⟨_, rfl⟩
  rw [← hD1] at K1
  rw [← hD2] at K2
  rw [← hD3] at K4
  rw [← hO, ← hD1, ← hD2, ← hD3, ← hD4] at hok
  rw [← hO]
  have QO : Hid (O = (D1 && D2 && D3 && D4)) := hok
  have Q4 : Hid (D4 = (listL s).all isNm) := hD4
  obtain ⟨bN, hbN⟩ : ∃ b, b = S (listN s) := ⟨_, rfl⟩
  obtain ⟨bR, hbR⟩ : ∃ b, b = S (Lib.cut s [40]).2.1 := ⟨_, rfl⟩
  obtain ⟨bI, hbI⟩ : ∃ b, b = S (listI s) := ⟨_, rfl⟩
  obtain ⟨bB, hbB⟩ : ∃ b, b = S (listB s) := ⟨_, rfl⟩
  obtain ⟨ss, hss⟩ : ∃ b, b = S s := ⟨_, rfl⟩
  rw [← hbN, ← hbR, ← hss] at K1
  rw [← hbR, ← hbI, ← hbB] at K2
  rw [← hbI] at K3 hie
  rw [← hbN] at K4
  rw [← hbN, ← hbB, ← hss]
  clear hbN hbR hbI hbB hss hD1 hD2 hD3 hD4 hO hok l1 l2 hm hL hI hs
  go_enter Tryz.func177, Tryz.ntmps177
  go_wp2_with fail
  refine K1.out.mono ?_
  rintro e w1 ⟨rfl, hB1⟩
  go_wp2_with fail
  refine (K2.out w1 hB1).mono ?_
  rintro e w2 ⟨rfl, hB2⟩
  have hBw := hB1.trans (hB2.mono hB1.size)
  clear hB1 hB2 K1 K2
  cases hE : (listI s).isEmpty with
  | true =>
    have HLn : Hid (listL s = []) := HI.out hE
    rw [hE] at hie
    clear hE HI K3
    have HLS : Hid (IsStrs w2 (.slice none 0 0) (listL s)) := by
      show IsStrs w2 (.slice none 0 0) (listL s)
      rw [HLn.out]
      exact ⟨none, 0, rfl, Nat.le_refl _, fun j hj => absurd hj (Nat.not_lt_zero _)⟩
    have HB : Hid (Below w.heap.size w w2) := hBw
    cases D1 with
    | false =>
      have hX2 : Hid (O = false) := by show O = false; rw [QO.out]; rfl
      go_wp2_with fail
      refine bodyPost_ret (v := .tuple #[.string bN, (.slice none 0 0), .string bB, .bool O]) (by simp [results, Tryz.results177, go_sem, hX2.out]) rfl ?_
      exact ⟨(.slice none 0 0), rfl, HLS.out, newV_nil _, hBw⟩
    | true =>
      cases D2 with
      | false =>
        have hX2 : Hid (O = false) := by show O = false; rw [QO.out]; rfl
        go_wp2_with fail
        refine bodyPost_ret (v := .tuple #[.string bN, (.slice none 0 0), .string bB, .bool O]) (by simp [results, Tryz.results177, go_sem, hX2.out]) rfl ?_
        exact ⟨(.slice none 0 0), rfl, HLS.out, newV_nil _, hBw⟩
      | true =>
        go_wp2_with fail
        refine (K4.out w2).mono ?_
        rintro e w4 ⟨rfl, hw⟩
        obtain rfl := hw.symm
        cases D3 with
        | false =>
          have hX2 : Hid (O = false) := by show O = false; rw [QO.out]; rfl
          go_wp2_with fail
          refine bodyPost_ret (v := .tuple #[.string bN, (.slice none 0 0), .string bB, .bool O]) (by simp [results, Tryz.results177, go_sem, hX2.out]) rfl ?_
          exact ⟨(.slice none 0 0), rfl, HLS.out, newV_nil _, hBw⟩
        | true =>
          have hX2 : Hid (O = D4) := by show O = D4; rw [QO.out]; rfl
          go_wp2_with fail
          refine (allS (listL s) (.slice none 0 0) w2 HL.out HLS.out).mono ?_
          rintro e w5 ⟨rfl, hB5⟩
          rw [← Q4.out]
          have HLS5 : Hid (IsStrs w5 (.slice none 0 0) (listL s)) := HLS.out.below hB5
          have hBw5 := hBw.trans (hB5.mono hBw.size)
          clear hB5
          go_wp2_with fail
          refine bodyPost_ret (v := .tuple #[.string bN, (.slice none 0 0), .string bB, .bool O]) (by simp [results, Tryz.results177, go_sem, hX2.out]) rfl ?_
          exact ⟨(.slice none 0 0), rfl, HLS5.out, newV_nil _, hBw5⟩
  | false =>
    have HE : Hid ((listI s).isEmpty = false) := hE
    rw [hE] at hie
    clear hE HI
    go_wp2_with fail
    refine (K3.out w2 hBw HE.out).mono ?_
    rintro e w3 ⟨v', rfl, hv, hnv, hB3⟩
    have HLS : Hid (IsStrs w3 v' (listL s)) := hv
    have HNV : Hid (NewV w v') := hnv.mono hBw
    clear hnv
    obtain ⟨va, vc, rfl, -, -⟩ := hv
    have hBw := hBw.trans (hB3.mono hBw.size)
    clear hB3 K3
    have HB : Hid (Below w.heap.size w w3) := hBw
    cases D1 with
    | false =>
      have hX2 : Hid (O = false) := by show O = false; rw [QO.out]; rfl
      go_wp2_with fail
      refine bodyPost_ret (v := .tuple #[.string bN, (.slice va (listL s).length vc), .string bB, .bool O]) (by simp [results, Tryz.results177, go_sem, hX2.out]) rfl ?_
      exact ⟨(.slice va (listL s).length vc), rfl, HLS.out, HNV.out, hBw⟩
    | true =>
      cases D2 with
      | false =>
        have hX2 : Hid (O = false) := by show O = false; rw [QO.out]; rfl
        go_wp2_with fail
        refine bodyPost_ret (v := .tuple #[.string bN, (.slice va (listL s).length vc), .string bB, .bool O]) (by simp [results, Tryz.results177, go_sem, hX2.out]) rfl ?_
        exact ⟨(.slice va (listL s).length vc), rfl, HLS.out, HNV.out, hBw⟩
      | true =>
        go_wp2_with fail
        refine (K4.out w3).mono ?_
        rintro e w4 ⟨rfl, hw⟩
        obtain rfl := hw.symm
        cases D3 with
        | false =>
          have hX2 : Hid (O = false) := by show O = false; rw [QO.out]; rfl
          go_wp2_with fail
          refine bodyPost_ret (v := .tuple #[.string bN, (.slice va (listL s).length vc), .string bB, .bool O]) (by simp [results, Tryz.results177, go_sem, hX2.out]) rfl ?_
          exact ⟨(.slice va (listL s).length vc), rfl, HLS.out, HNV.out, hBw⟩
        | true =>
          have hX2 : Hid (O = D4) := by show O = D4; rw [QO.out]; rfl
          go_wp2_with fail
          refine (allS (listL s) (.slice va (listL s).length vc) w3 HL.out HLS.out).mono ?_
          rintro e w5 ⟨rfl, hB5⟩
          rw [← Q4.out]
          have HLS5 : Hid (IsStrs w5 (.slice va (listL s).length vc) (listL s)) := HLS.out.below hB5
          have hBw5 := hBw.trans (hB5.mono hBw.size)
          clear hB5
          go_wp2_with fail
          refine bodyPost_ret (v := .tuple #[.string bN, (.slice va (listL s).length vc), .string bB, .bool O]) (by simp [results, Tryz.results177, go_sem, hX2.out]) rfl ?_
          exact ⟨(.slice va (listL s).length vc), rfl, HLS5.out, HNV.out, hBw5⟩
end Go.Proofs.YtakmmpbkojhmhaaGreatDoor

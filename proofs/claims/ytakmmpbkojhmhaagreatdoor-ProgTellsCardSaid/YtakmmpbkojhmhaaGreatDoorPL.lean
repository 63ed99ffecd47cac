/-
  Package prog: list, stmtText, by contracts.
-/
import Derived.Test.YtakmmpbkojhmhaaGreatDoorPK
import Derived.Lib.QuietBelow
namespace Go.Proofs.YtakmmpbkojhmhaaGreatDoor
open Go.RowKit Go.Extern.Stop Go.Stop Go.Extern

theorem join_any (ss : List Bs) (v : Value) (n B : Nat) (w : World) (h : w.ownsRow B 9 1 v n (ss.map strV)) (hm : ss.length ≤ 1000000) (hl : (Lib.join ss sep).length ≤ 1000000000) :
    Calls Tryz.prog 59 #[v, .string ⟨#[44, 32]⟩] w fun e w' => e = .returned (.string (S (Lib.join ss sep))) ∧ Below w.heap.size w w' := by
  have hn : n = ss.length := by have := h.1; simp at this; omega
  have hmap : (ss.map S).map (·.data.toList) = ss := by
    rw [List.map_map]
    conv => rhs; rw [← List.map_id ss]
    exact List.map_congr_left fun x _ => S_data x
  rcases h.2 with ⟨rfl, h0⟩ | ⟨g, cap, cur, rfl, hg, hh, hcap, _⟩
  · have : ss = [] := List.eq_nil_of_length_eq_zero (by omega)
    subst this
    refine (Tryz.strings_Join_none none 0 _ w).mono ?_
    rintro e w' ⟨rfl, rfl⟩
    exact ⟨rfl, Below.refl _ _⟩
  · subst hn
    have := Tryz.strings_Join g 0 cap (ss.map S) ⟨#[44, 32]⟩ w (fun j x hj => by
      have hj2 : (ss.map strV)[j]? = some (.string x) := by
        rw [List.getElem?_map] at hj ⊢
        cases hs : ss[j]? with
        | none => rw [hs] at hj; cases hj
        | some y => rw [hs] at hj; cases hj; rfl
      have := h.cells (g := g) rfl j _ hj2
      rw [Addr.add_lit] at this
      exact this) (Array.getElem?_eq_some_iff.1 hh).1 (by rw [List.length_map]; omega) (by rw [List.length_map]; exact hcap) (by rw [hmap]; exact Nat.le_trans hl (by decide))
    rw [List.length_map, hmap] at this
    exact this

set_option maxHeartbeats 1000000 in
theorem list_any (ns : List Bs) (zs : List Int) (v : Value) (nb : Nat) (w : World) (hm2 : zs.length ≤ 1000000) (h : IsInts w v zs) (hn : NamesAt w nb ns) (hin : ∀ k ∈ zs, 0 ≤ k ∧ k < (ns.length : Int)) (hl : (Lib.join (zs.map fun k => ns.getD k.toNat []) sep).length ≤ 1000000000) :
    Calls Tryz.prog 72 #[v, namerF nb] w fun e w' => e = .returned (.string (S ([40] ++ Lib.join (zs.map fun k => ns.getD k.toNat []) sep ++ [41]))) ∧ Below w.heap.size w w' := by
  have HC : Hid (Calls Tryz.prog 112 #[v, namerF nb] w fun e w' => ∃ v', e = .returned v' ∧ w'.ownsRow w.heap.size 9 1 v' (zs.map fun k => ns.getD k.toNat []).length ((zs.map fun k => ns.getD k.toNat []).map strV) ∧ Below w.heap.size w w') := eachIS ns zs v nb w hm2 h hn hin
  obtain ⟨a, c, rfl⟩ := isInts_form h
  obtain ⟨L, hL⟩ : ∃ L, L = zs.map fun k => ns.getD k.toNat [] := ⟨_, rfl⟩
  rw [← hL] at HC hl ⊢
  have hLl : L.length ≤ 1000000 := by rw [hL, List.length_map]; exact hm2
  have HJ : Hid (L.length ≤ 1000000 ∧ (Lib.join L sep).length ≤ 1000000000) := ⟨hLl, hl⟩
  have HX : Hid (S ([40] ++ Lib.join L sep ++ [41]) = ⟨#[40]⟩ ++ S (Lib.join L sep) ++ ⟨#[41]⟩) := by
    show S ([40] ++ Lib.join L sep ++ [41]) = S [40] ++ S (Lib.join L sep) ++ S [41]
    rw [S_append, S_append]
  obtain ⟨T, hT⟩ : ∃ T, T = S ([40] ++ Lib.join L sep ++ [41]) := ⟨_, rfl⟩
  rw [← hT] at HX ⊢
  clear h hn hin hl hL hLl hT
  go_enter Tryz.func72, Tryz.ntmps72
  go_wp2_with fail
  refine HC.out.mono ?_
  rintro e w1 ⟨v', rfl, ho, hB⟩
  have HO : Hid (w1.ownsRow w.heap.size 9 1 v' L.length (L.map strV)) := ho
  clear ho
  go_wp2_with fail
  refine (join_any L v' L.length w.heap.size w1 HO.out HJ.out.1 HJ.out.2).mono ?_
  rintro e w2 ⟨rfl, hB2⟩
  have hBw := hB.trans (hB2.mono hB.size)
  obtain ⟨U, hU⟩ : ∃ U, U = S (Lib.join L sep) := ⟨_, rfl⟩
  have hUz : U.size ≤ 1000000000 := by rw [hU, S_size]; exact HJ.out.2
  rw [← hU] at HX ⊢
  clear hU hB2 hB
  go_wp2_with fail
  go_ret
  exact ⟨by rw [HX.out]; rfl, hBw⟩

theorem varB_in {P : ProgD} {k : Int} (h : varB P k = true) : 0 ≤ k ∧ k < (P.vars.length : Int) := varB_parts h
theorem funB_in {P : ProgD} {k : Int} (h : funB P k = true) : 0 ≤ k ∧ k < ((fnames P).length : Int) := by
  have := funB_parts h
  unfold fnames; rw [List.length_map]; exact this
theorem join_short (xs : List Bs) (h : ∀ x ∈ xs, x.length ≤ 8) : (Lib.join xs sep).length ≤ 10 * xs.length := by
  have tail : ∀ r : List Bs, (∀ x ∈ r, x.length ≤ 8) → (Lib.joinTail sep r).length ≤ 10 * r.length := by
    intro r
    induction r with
    | nil => intro _; simp [Lib.joinTail]
    | cons y r ih =>
      intro h
      have h1 := ih (fun z hz => h z (List.mem_cons_of_mem _ hz))
      have h2 := h y (List.mem_cons_self ..)
      unfold Lib.joinTail at h1 ⊢
      simp only [List.map_cons, List.flatten_cons, List.length_append, List.length_cons] at h1 ⊢
      have : sep.length = 2 := rfl
      omega
  cases xs with
  | nil => simp [Lib.join_nil]
  | cons x r =>
    rw [Lib.join_cons, List.length_append]
    have h1 := tail r (fun y hy => h y (List.mem_cons_of_mem _ hy))
    have h2 := h x (List.mem_cons_self ..)
    simp only [List.length_cons]
    omega
theorem Right.short {P : ProgD} (h : Right P) (l : List Int) (hl : l.all (varB P) = true) : (Lib.join (l.map (nameOf P)) sep).length ≤ 10 * l.length := by
  have := join_short (l.map (nameOf P)) (fun x hx => by
    obtain ⟨k, hk, rfl⟩ := List.mem_map.1 hx
    exact (isNm_parts (h.name (List.all_eq_true.1 hl k hk))).2.2.2.2.2.2.1)
  rwa [List.length_map] at this

set_option maxHeartbeats 4000000 in
theorem stmtText_any (P : ProgD) (s : StmtD) (av : Value) (nb fb : Nat) (w : World) (hR : Right P) (hs : stmtE P s = none) (ha : IsInts w av s.args) (hn : NamesAt w nb P.vars) (hf : NamesAt w fb (fnames P)) :
    Calls Tryz.prog 73 #[.agg #[.string (S s.kind), .int .i64 s.x, .int .i64 s.y, av], namerF nb, namerF fb] w fun e w' => e = .returned (.string (S (lineStmt P s))) ∧ Below w.heap.size w w' := by
  obtain ⟨hk, hx, hy, hargs, h3, h0, hz⟩ := stmt_parts hs
  obtain ⟨k, x, y, args⟩ := s
  have HCX : Hid (∀ wx, Below w.heap.size w wx → Calls Tryz.prog 110 #[.int .i64 x, .pointer (some ⟨nb, 0, none⟩)] wx fun e w' => e = .returned (.string (S (nameOf P x))) ∧ w' = wx) := fun wx hb => namer1_any P.vars x nb wx (hn.below hb) (varB_in hx).1 (varB_in hx).2
  obtain ⟨kb, hkb⟩ : ∃ kb, kb = S k := ⟨_, rfl⟩
  obtain ⟨va, vc, rfl⟩ := isInts_form ha
  show Calls Tryz.prog 73 #[.agg #[.string (S k), .int .i64 x, .int .i64 y, .slice va args.length vc], namerF nb, namerF fb] w fun e w' => e = .returned (.string (S (lineStmt P ⟨k, x, y, args⟩))) ∧ Below w.heap.size w w'
  rw [← hkb]
  obtain ⟨T, hT⟩ : ∃ T, T = S (lineStmt P ⟨k, x, y, args⟩) := ⟨_, rfl⟩
  rw [← hT]
  obtain ⟨b1, hb1⟩ : ∃ b1, b1 = S (nameOf P x) := ⟨_, rfl⟩
  rw [← hb1] at HCX
  have z1 : b1.size ≤ 8 := by rw [hb1, S_size]; exact (isNm_parts (hR.name hx)).2.2.2.2.2.2.1
  rcases kinds_cases hk with rfl | rfl | rfl | rfl | rfl | rfl | rfl
  · have hkk : kb.toList = [97, 100, 100, 114] := by rw [hkb, S_toList]; rfl
    have hy' : varB P y = true := hy
    have HCY : Hid (∀ wx, Below w.heap.size w wx → Calls Tryz.prog 110 #[.int .i64 y, .pointer (some ⟨nb, 0, none⟩)] wx fun e w' => e = .returned (.string (S (nameOf P y))) ∧ w' = wx) := fun wx hb => namer1_any P.vars y nb wx (hn.below hb) (varB_in hy').1 (varB_in hy').2
    obtain ⟨b2, hb2⟩ : ∃ b2, b2 = S (nameOf P y) := ⟨_, rfl⟩
    rw [← hb2] at HCY
    have z2 : b2.size ≤ 8 := by rw [hb2, S_size]; exact (isNm_parts (hR.name hy')).2.2.2.2.2.2.1
    have HX : Hid (T = b1 ++ ⟨#[32, 61, 32, 38]⟩ ++ b2) := by
      show T = b1 ++ S [32, 61, 32, 38] ++ b2
      rw [hT, hb1, hb2, S_append, S_append]; rfl
    clear hkb hT hb1 hb2 hn hf ha hk hx hy hy' hargs h0 hz h3 hR hs
    go_enter Tryz.func73, Tryz.ntmps73
    go_wp2_with fail
    refine (HCX.out _ (below1 w _)).mono ?_
    rintro e w1 ⟨rfl, hw⟩
    obtain rfl := hw.symm
    clear hw
    go_wp2_with fail
    refine (HCY.out _ (below1 w _)).mono ?_
    rintro e w1 ⟨rfl, hw⟩
    obtain rfl := hw.symm
    clear hw
    go_wp2_with fail
    go_ret
    exact ⟨by rw [HX.out]; rfl, below1 w _⟩
  · have hkk : kb.toList = [99, 111, 112, 121] := by rw [hkb, S_toList]; rfl
    have hy' : varB P y = true := hy
    have HCY : Hid (∀ wx, Below w.heap.size w wx → Calls Tryz.prog 110 #[.int .i64 y, .pointer (some ⟨nb, 0, none⟩)] wx fun e w' => e = .returned (.string (S (nameOf P y))) ∧ w' = wx) := fun wx hb => namer1_any P.vars y nb wx (hn.below hb) (varB_in hy').1 (varB_in hy').2
    obtain ⟨b2, hb2⟩ : ∃ b2, b2 = S (nameOf P y) := ⟨_, rfl⟩
    rw [← hb2] at HCY
    have z2 : b2.size ≤ 8 := by rw [hb2, S_size]; exact (isNm_parts (hR.name hy')).2.2.2.2.2.2.1
    have HX : Hid (T = b1 ++ ⟨#[32, 61, 32]⟩ ++ b2) := by
      show T = b1 ++ S [32, 61, 32] ++ b2
      rw [hT, hb1, hb2, S_append, S_append]; rfl
    clear hkb hT hb1 hb2 hn hf ha hk hx hy hy' hargs h0 hz h3 hR hs
    go_enter Tryz.func73, Tryz.ntmps73
    go_wp2_with fail
    refine (HCX.out _ (below1 w _)).mono ?_
    rintro e w1 ⟨rfl, hw⟩
    obtain rfl := hw.symm
    clear hw
    go_wp2_with fail
    refine (HCY.out _ (below1 w _)).mono ?_
    rintro e w1 ⟨rfl, hw⟩
    obtain rfl := hw.symm
    clear hw
    go_wp2_with fail
    go_ret
    exact ⟨by rw [HX.out]; rfl, below1 w _⟩
  · have hkk : kb.toList = [108, 111, 97, 100] := by rw [hkb, S_toList]; rfl
    have hy' : varB P y = true := hy
    have HCY : Hid (∀ wx, Below w.heap.size w wx → Calls Tryz.prog 110 #[.int .i64 y, .pointer (some ⟨nb, 0, none⟩)] wx fun e w' => e = .returned (.string (S (nameOf P y))) ∧ w' = wx) := fun wx hb => namer1_any P.vars y nb wx (hn.below hb) (varB_in hy').1 (varB_in hy').2
    obtain ⟨b2, hb2⟩ : ∃ b2, b2 = S (nameOf P y) := ⟨_, rfl⟩
    rw [← hb2] at HCY
    have z2 : b2.size ≤ 8 := by rw [hb2, S_size]; exact (isNm_parts (hR.name hy')).2.2.2.2.2.2.1
    have HX : Hid (T = b1 ++ ⟨#[32, 61, 32, 42]⟩ ++ b2) := by
      show T = b1 ++ S [32, 61, 32, 42] ++ b2
      rw [hT, hb1, hb2, S_append, S_append]; rfl
    clear hkb hT hb1 hb2 hn hf ha hk hx hy hy' hargs h0 hz h3 hR hs
    go_enter Tryz.func73, Tryz.ntmps73
    go_wp2_with fail
    refine (HCX.out _ (below1 w _)).mono ?_
    rintro e w1 ⟨rfl, hw⟩
    obtain rfl := hw.symm
    clear hw
    go_wp2_with fail
    refine (HCY.out _ (below1 w _)).mono ?_
    rintro e w1 ⟨rfl, hw⟩
    obtain rfl := hw.symm
    clear hw
    go_wp2_with fail
    go_ret
    exact ⟨by rw [HX.out]; rfl, below1 w _⟩
  · have hkk : kb.toList = [115, 116, 111, 114, 101] := by rw [hkb, S_toList]; rfl
    have hy' : varB P y = true := hy
    have HCY : Hid (∀ wx, Below w.heap.size w wx → Calls Tryz.prog 110 #[.int .i64 y, .pointer (some ⟨nb, 0, none⟩)] wx fun e w' => e = .returned (.string (S (nameOf P y))) ∧ w' = wx) := fun wx hb => namer1_any P.vars y nb wx (hn.below hb) (varB_in hy').1 (varB_in hy').2
    obtain ⟨b2, hb2⟩ : ∃ b2, b2 = S (nameOf P y) := ⟨_, rfl⟩
    rw [← hb2] at HCY
    have z2 : b2.size ≤ 8 := by rw [hb2, S_size]; exact (isNm_parts (hR.name hy')).2.2.2.2.2.2.1
    have HX : Hid (T = ⟨#[42]⟩ ++ b1 ++ ⟨#[32, 61, 32]⟩ ++ b2) := by
      show T = S [42] ++ b1 ++ S [32, 61, 32] ++ b2
      rw [hT, hb1, hb2, S_append, S_append, S_append]; rfl
    clear hkb hT hb1 hb2 hn hf ha hk hx hy hy' hargs h0 hz h3 hR hs
    go_enter Tryz.func73, Tryz.ntmps73
    go_wp2_with fail
    refine (HCX.out _ (below1 w _)).mono ?_
    rintro e w1 ⟨rfl, hw⟩
    obtain rfl := hw.symm
    clear hw
    go_wp2_with fail
    refine (HCY.out _ (below1 w _)).mono ?_
    rintro e w1 ⟨rfl, hw⟩
    obtain rfl := hw.symm
    clear hw
    go_wp2_with fail
    go_ret
    exact ⟨by rw [HX.out]; rfl, below1 w _⟩
  · have hkk : kb.toList = [110, 101, 119] := by rw [hkb, S_toList]; rfl
    have HX : Hid (T = b1 ++ ⟨#[32, 61, 32, 110, 101, 119]⟩) := by
      show T = b1 ++ S [32, 61, 32, 110, 101, 119]
      rw [hT, hb1, S_append]; rfl
    clear hkb hT hb1 hn hf ha hk hx hy hargs h0 hz h3 hR hs
    go_enter Tryz.func73, Tryz.ntmps73
    go_wp2_with fail
    refine (HCX.out _ (below1 w _)).mono ?_
    rintro e w1 ⟨rfl, hw⟩
    obtain rfl := hw.symm
    clear hw
    go_wp2_with fail
    go_ret
    exact ⟨by rw [HX.out]; rfl, below1 w _⟩
  · have hkk : kb.toList = [102, 117, 110] := by rw [hkb, S_toList]; rfl
    have hy' : funB P y = true := hy
    have HCY : Hid (∀ wx, Below w.heap.size w wx → Calls Tryz.prog 110 #[.int .i64 y, .pointer (some ⟨fb, 0, none⟩)] wx fun e w' => e = .returned (.string (S (funOf P y))) ∧ w' = wx) := fun wx hb => namer1_any (fnames P) y fb wx (hf.below hb) (funB_in hy').1 (funB_in hy').2
    obtain ⟨b2, hb2⟩ : ∃ b2, b2 = S (funOf P y) := ⟨_, rfl⟩
    rw [← hb2] at HCY
    have z2 : b2.size ≤ 8 := by rw [hb2, S_size]; exact (isNm_parts (hR.fname hy')).2.2.2.2.2.2.1
    have HX : Hid (T = b1 ++ ⟨#[32, 61, 32, 102, 110, 32]⟩ ++ b2) := by
      show T = b1 ++ S [32, 61, 32, 102, 110, 32] ++ b2
      rw [hT, hb1, hb2, S_append, S_append]; rfl
    clear hkb hT hb1 hb2 hn hf ha hk hx hy hy' hargs h0 hz h3 hR hs
    go_enter Tryz.func73, Tryz.ntmps73
    go_wp2_with fail
    refine (HCX.out _ (below1 w _)).mono ?_
    rintro e w1 ⟨rfl, hw⟩
    obtain rfl := hw.symm
    clear hw
    go_wp2_with fail
    refine (HCY.out _ (below1 w _)).mono ?_
    rintro e w1 ⟨rfl, hw⟩
    obtain rfl := hw.symm
    clear hw
    go_wp2_with fail
    go_ret
    exact ⟨by rw [HX.out]; rfl, below1 w _⟩
  · have hkk : kb.toList = [99, 97, 108, 108] := by rw [hkb, S_toList]; rfl
    have hy' : varB P y = true := hy
    have h3' : args.length ≤ 3 := h3 rfl
    have HCY : Hid (∀ wx, Below w.heap.size w wx → Calls Tryz.prog 110 #[.int .i64 y, .pointer (some ⟨nb, 0, none⟩)] wx fun e w' => e = .returned (.string (S (nameOf P y))) ∧ w' = wx) := fun wx hb => namer1_any P.vars y nb wx (hn.below hb) (varB_in hy').1 (varB_in hy').2
    have HCL : Hid (∀ wx, Below w.heap.size w wx → Calls Tryz.prog 72 #[.slice va args.length vc, namerF nb] wx fun e w' => e = .returned (.string (S (namesT P args))) ∧ Below wx.heap.size wx w') := fun wx hb => by
      refine (list_any P.vars args _ nb wx (by omega) (ha.below hb) (hn.below hb) (fun k hk => varB_in (List.all_eq_true.1 hargs k hk)) ?_).mono ?_
      · have := hR.short args hargs
        exact Nat.le_trans this (by omega)
      · rintro e w' ⟨rfl, hB⟩
        exact ⟨rfl, hB⟩
    obtain ⟨b2, hb2⟩ : ∃ b2, b2 = S (nameOf P y) := ⟨_, rfl⟩
    obtain ⟨b3, hb3⟩ : ∃ b3, b3 = S (namesT P args) := ⟨_, rfl⟩
    rw [← hb2] at HCY
    rw [← hb3] at HCL
    have z2 : b2.size ≤ 8 := by rw [hb2, S_size]; exact (isNm_parts (hR.name hy')).2.2.2.2.2.2.1
    have z3 : b3.size ≤ 100 := by
      rw [hb3, S_size]
      have := hR.short args hargs
      unfold namesT
      simp only [List.length_append, List.length_cons, List.length_nil]
      omega
    have HX : Hid (T = b1 ++ ⟨#[32, 61, 32, 99, 97, 108, 108, 32]⟩ ++ b2 ++ b3) := by
      show T = b1 ++ S [32, 61, 32, 99, 97, 108, 108, 32] ++ b2 ++ b3
      rw [hT, hb1, hb2, hb3, S_append, S_append, S_append]; rfl
    clear hkb hT hb1 hb2 hb3 hn hf ha hk hx hy hy' hargs h0 hz h3 h3' hR hs
    go_enter Tryz.func73, Tryz.ntmps73
    go_wp2_with fail
    refine (HCX.out _ (below1 w _)).mono ?_
    rintro e w1 ⟨rfl, hw⟩
    obtain rfl := hw.symm
    clear hw HCX
    go_wp2_with fail
    obtain ⟨w0, hw0⟩ : ∃ w0, w0 = w.alloc (.cells #[.string kb, .int .i64 x, .int .i64 y, .slice va args.length vc] 60) := ⟨_, rfl⟩
    have hB0 : Below w.heap.size w w0 := by rw [hw0]; exact below1 w _
    have q2 : w0.cell? ⟨w.heap.size, 2, none⟩ = some (.int .i64 y) := by rw [hw0]; simp
    have q3 : w0.cell? ⟨w.heap.size, 3, none⟩ = some (.slice va args.length vc) := by rw [hw0]; simp
    rw [← hw0]
    clear hw0
    have k2 := cell_regrown q2
    have k3 := cell_regrown q3
    have cY : ∀ d os, Calls Tryz.prog 110 #[.int .i64 y, .pointer (some ⟨nb, 0, none⟩)] (Go.Sort.grow (redrawn w0 d) os) fun e w'' => e = .returned (.string b2) ∧ ∃ p : Regrown, w'' = Go.Sort.grow (redrawn w0 p.d) p.os := fun d os => Calls.regrown_of ((HCY.out _ (hB0.trans ((below_regrown w0 d os).mono hB0.size))).mono fun e w' h => ⟨h.1, by rw [h.2]; exact Below.refl _ _⟩)
    have cL : ∀ d os, Calls Tryz.prog 72 #[.slice va args.length vc, namerF nb] (Go.Sort.grow (redrawn w0 d) os) fun e w'' => e = .returned (.string b3) ∧ ∃ p : Regrown, w'' = Go.Sort.grow (redrawn w0 p.d) p.os := fun d os => Calls.regrown_of (HCL.out _ (hB0.trans ((below_regrown w0 d os).mono hB0.size)))
    have n1 : ¬ 9223372036854775807 < b1.size + 8 := by omega
    have n2 : ¬ 9223372036854775807 < b1.size + 8 + b2.size := by omega
    have n3 : ¬ 9223372036854775807 < b1.size + 8 + b2.size + b3.size := by omega
    refine wp_region_quiet_below (by kernel_rfl) (by kernel_rfl) ?_
    repeat (quiet_step (first | exact cY _ _ | exact cL _ _))
    refine wpQuiet_nil ?_
    intro _ hw'
    obtain ⟨⟨dq, osq⟩, hw''⟩ := hw'
    subst hw''
    go_wp2
    go_ret
    exact ⟨by rw [HX.out]; rfl, hB0.trans ((below_regrown w0 dq osq).mono hB0.size)⟩
end Go.Proofs.YtakmmpbkojhmhaaGreatDoor

/-
  The law SetOf, walked: where the first numbers are ones that a set may have.
-/
import Derived.Test.YtgmjmadacmgnkaaDoorSetOfWalk
namespace Go.Proofs.YtgmjmadacmgnkaaDoor
open Go.RowKit Go.Extern.Stop Go.Stop Go.Extern Go.Sort

/-- Values that each read as their numbers. -/
def All (w : World) (l : List (Value × List Int)) : Prop := ∀ p, p ∈ l → IsInts w p.1 p.2
theorem All.below {w w' : World} {l : List (Value × List Int)} (h : All w l) (hb : Below w.heap.size w w') : All w' l := fun p hp => (h p hp).below hb
theorem All.nil (w : World) : All w [] := fun p hp => by cases hp
theorem All.cons {w : World} {l : List (Value × List Int)} {v : Value} {zs : List Int} (h : IsInts w v zs) (ha : All w l) : All w ((v, zs) :: l) := fun p hp => by
  rcases List.mem_cons.1 hp with e | m
  · subst e; exact h
  · exact ha p m

theorem union_assoc (X Y Z : List Int) : norm (norm (X ++ Y) ++ Z) = norm (X ++ norm (Y ++ Z)) :=
  rise_ext _ _ (norm_rise _) (norm_rise _) fun x => by simp [norm_mem, or_assoc]
theorem both_union (X Y Z : List Int) (hX : IsSet X) : X.filter (fun y => (norm (Y ++ Z)).contains y) = norm (X.filter (fun y => Y.contains y) ++ X.filter fun y => Z.contains y) :=
  rise_ext _ _ (hX.pairwise.filter _) (norm_rise _) fun x => by
    simp only [norm_mem, List.mem_filter, List.mem_append, List.contains_iff_mem]
    constructor
    · rintro ⟨h1, h2 | h2⟩
      · exact Or.inl ⟨h1, h2⟩
      · exact Or.inr ⟨h1, h2⟩
    · rintro (⟨h1, h2⟩ | ⟨h1, h2⟩)
      · exact ⟨h1, Or.inl h2⟩
      · exact ⟨h1, Or.inr h2⟩

set_option maxRecDepth 100000 in
set_option maxHeartbeats 8000000 in
theorem setOf_in (a : Nat → Addr) (xs ys zs : List Int) (v1 v2 v3 : Value) (w : World) (ht : Pow w) (hE : Errs w a) (i1 : IsInts w v1 xs) (i2 : IsInts w v2 ys) (i3 : IsInts w v3 zs)
    (l1 : xs.length ≤ 60) (l2 : ys.length ≤ 60) (l3 : zs.length ≤ 60) (hin : InB xs) :
    Calls Tryd.prog 5 #[v1, v2, v3] w fun e w' => e = .returned (.bool true) ∧ Below w.heap.size w w' := by
  have HK : Hid (Calls Tryd.prog 10 #[] w fun e w' => e = .returned (.bool true) ∧ Below w.heap.size w w') := united_any w ht
  have H1 : Hid (IsInts w v1 xs) := i1
  have H2 : Hid (IsInts w v2 ys) := i2
  have H3 : Hid (IsInts w v3 zs) := i3
  have HE : Hid (Errs w a) := hE
  have HI : Hid (InB xs) := hin
  obtain ⟨a1, c1, rfl⟩ := i1.form
  obtain ⟨a2, c2, rfl⟩ := i2.form
  obtain ⟨a3, c3, rfl⟩ := i3.form
  clear ht i1 i2 i3 hE hin
  obtain ⟨n, hn⟩ : ∃ n, n = xs.length := ⟨_, rfl⟩
  obtain ⟨n2, hn2⟩ : ∃ n2, n2 = ys.length := ⟨_, rfl⟩
  obtain ⟨n3, hn3⟩ : ∃ n3, n3 = zs.length := ⟨_, rfl⟩
  rw [← hn] at H1 l1 ⊢
  rw [← hn2] at H2 l2 ⊢
  rw [← hn3] at H3 l3 ⊢
  have HN : Hid (n = xs.length ∧ n2 = ys.length ∧ n3 = zs.length) := ⟨hn, hn2, hn3⟩
  clear hn hn2 hn3
  go_enter Tryd.func5, Tryd.ntmps5
  go_wp2_with fail
  refine HK.out.mono ?_
  rintro e w1 ⟨rfl, hB1⟩
  go_wp2_with fail
  refine (ownInts_any xs _ w1 (by rw [← HN.out.1]; omega) (H1.out.below hB1)).mono ?_
  rintro e w2 ⟨x2, rfl, hI2, hB2⟩
  have hBw2 : Below w.heap.size w w2 := hB1.trans (hB2.mono hB1.size)
  have HI2 : Hid (IsInts w2 x2 xs) := hI2
  clear hI2 hB2 hB1
  go_wp2_with fail
  refine (of_ok xs x2 w2 (by rw [← HN.out.1]; omega) HI2.out HI.out).mono ?_
  rintro e w3 ⟨x, rfl, hX3, hB3⟩
  have hBw3 : Below w.heap.size w w3 := hBw2.trans (hB3.mono hBw2.size)
  have HX3 : Hid (IsInts w3 x (norm xs)) := hX3
  clear hB3 hBw2 HI2 hX3
  go_wp2_with fail
  go_loopw [10, 11] (fun t u wr => ∃ k : Nat, k ≤ n ∧ u = .int .i64 k ∧ wr = w3 ∧ t = .int .i64 0) (fun _ u _ => (n - intOf u).toNat)
  case atStart => exact ⟨0, Nat.zero_le _, rfl, rfl, rfl⟩
  case round =>
    obtain ⟨k, hk, rfl, rfl, rfl⟩ := hrel
    by_cases hlt : k < n
    · rcases H1.out with ⟨hzn, _⟩ | ⟨hzn, b, o, c, hv, hc⟩
      · exfalso; have := HN.out.1; rw [hzn] at this; simp at this; omega
      obtain rfl : a1 = some ⟨b, o, none⟩ := by simpa using (Value.slice.inj hv).1
      have hkl : k < xs.length := by rw [← HN.out.1]; exact hlt
      have e1 := cell_keep hBw3 (hc k hkl)
      have e2 := HI.out k hkl
      generalize xs.getD k 0 = z at e1 e2
      obtain ⟨e3, e4⟩ := e2
      clear hv hc hzn hkl
      go_wp2_with fail
      go_roundw
      case rel => exact ⟨k + 1, hlt, by go_num, trivial, rfl⟩
      case measure => simp [intOf]; omega
    · go_wp2_with fail
      refine (coded_nil _).mono ?_
      rintro e w4 ⟨rfl, hB4⟩
      have hBw4 := hBw3.trans (hB4.mono hBw3.size)
      have HX4 : Hid (IsInts w4 x (norm xs)) := HX3.out.below hB4
      clear hB4 hBw3 HX3 hk hlt
      go_wp2_with fail
      refine (ref_setOf xs _ w4 (by rw [← HN.out.1]; omega) (H1.out.below hBw4) HI.out).mono ?_
      rintro e w5 ⟨r5, rfl, hR5, hB5⟩
      rw [← norm_eq_canon HI.out] at hR5
      have hBw5 := hBw4.trans (hB5.mono hBw4.size)
      have HX5 : Hid (IsInts w5 x (norm xs) ∧ IsInts w5 r5 (norm xs)) := ⟨HX4.out.below hB5, hR5⟩
      have hln : (norm xs).length ≤ 60 := Nat.le_trans (norm_length_le xs) (by rw [← HN.out.1]; exact l1)
      clear hB5 hBw4 HX4 hR5
      go_wp2_with fail
      refine (sameInts_true (norm xs) x r5 w5 (by omega) HX5.out.1 HX5.out.2).mono ?_
      rintro e w6 ⟨rfl, hB6⟩
      have hBw6 := hBw5.trans (hB6.mono hBw5.size)
      have HX6 : Hid (IsInts w6 x (norm xs)) := HX5.out.1.below hB6
      clear hB6 hBw5 HX5
      go_wp2_with fail
      refine (ownInts_any ys _ w6 (by rw [← HN.out.2.1]; omega) (H2.out.below hBw6)).mono ?_
      rintro e w7 ⟨y7, rfl, hI7, hB7⟩
      have hBw7 := hBw6.trans (hB7.mono hBw6.size)
      have HX7 : Hid (IsInts w7 x (norm xs) ∧ IsInts w7 y7 ys) := ⟨HX6.out.below hB7, hI7⟩
      clear hB7 hBw6 HX6 hI7
      go_wp2_with fail
      by_cases hy : InB ys
      · have HYB : Hid (InB ys) := hy
        clear hy
        refine (of_ok ys y7 w7 (by rw [← HN.out.2.1]; omega) HX7.out.2 HYB.out).mono ?_
        rintro e w8 ⟨y, rfl, hY8, hB8⟩
        have hBw8 := hBw7.trans (hB8.mono hBw7.size)
        have HX8 : Hid (IsInts w8 x (norm xs) ∧ IsInts w8 y (norm ys)) := ⟨HX7.out.1.below hB8, hY8⟩
        clear hB8 hBw7 HX7 hY8
        go_wp2_with fail
        refine (ownInts_any zs _ w8 (by rw [← HN.out.2.2]; omega) (H3.out.below hBw8)).mono ?_
        rintro e w9 ⟨z9, rfl, hI9, hB9⟩
        have hBw9 := hBw8.trans (hB9.mono hBw8.size)
        have HX9 : Hid (IsInts w9 x (norm xs) ∧ IsInts w9 y (norm ys) ∧ IsInts w9 z9 zs) := ⟨HX8.out.1.below hB9, HX8.out.2.below hB9, hI9⟩
        clear hB9 hBw8 HX8 hI9
        go_wp2_with fail
        by_cases hz : InB zs
        · have HZB : Hid (InB zs) := hz
          clear hz
          refine (of_ok zs z9 w9 (by rw [← HN.out.2.2]; omega) HX9.out.2.2 HZB.out).mono ?_
          rintro e w10 ⟨z, rfl, hZ10, hB10⟩
          have hBw10 := hBw9.trans (hB10.mono hBw9.size)
          have hlY : (norm ys).length ≤ 60 := Nat.le_trans (norm_length_le ys) (by rw [← HN.out.2.1]; exact l2)
          have hlZ : (norm zs).length ≤ 60 := Nat.le_trans (norm_length_le zs) (by rw [← HN.out.2.2]; exact l3)
          have HA : Hid (All w10 [(x, norm xs), (y, norm ys), (z, norm zs)]) := All.cons (HX9.out.1.below hB10) (All.cons (HX9.out.2.1.below hB10) (All.cons hZ10 (All.nil _)))
          have sX : Hid (IsSet (norm xs)) := isSet_norm HI.out
          have sY : Hid (IsSet (norm ys)) := isSet_norm HYB.out
          have sZ : Hid (IsSet (norm zs)) := isSet_norm HZB.out
          generalize norm xs = X at HA sX hln
          generalize norm ys = Y at HA sY hlY
          generalize norm zs = Z at HA sZ hlZ
          clear hZ10 hB10 hBw9 HX9 H1 H2 H3 HN HK HE HI HYB HZB
          go_wp2_with fail
          refine (union_ok X Y x y w10 (by omega) (by omega) (HA.out (x, X) (by simp)) (HA.out (y, Y) (by simp)) sX.out sY.out).mono ?_
          rintro e w11 ⟨p, rfl, hnew, hB⟩
          obtain ⟨P, hP⟩ : ∃ l, l = norm (X ++ Y) := ⟨_, rfl⟩
          rw [← hP] at hnew
          have EP : Hid (P = norm (X ++ Y)) := hP
          have sP : Hid (IsSet P) := by rw [hP]; exact isSet_norm (inB_append sX.out.1 sY.out.1)
          have lP : P.length ≤ 120 := by rw [hP]; exact Nat.le_trans (norm_length_le _) (by simp; omega)
          have hBw11 := hBw10.trans (hB.mono hBw10.size)
          have HA' : Hid (All w11 [(p, P), (x, X), (y, Y), (z, Z)]) := All.cons hnew (HA.out.below hB)
          clear hnew hB hBw10 HA hP
          have HA := HA'
          clear HA'
          go_wp2_with fail
          refine (union_ok P Z p z w11 (by omega) (by omega) (HA.out (p, P) (by simp)) (HA.out (z, Z) (by simp)) sP.out sZ.out).mono ?_
          rintro e w12 ⟨q, rfl, hnew, hB⟩
          obtain ⟨Q, hQ⟩ : ∃ l, l = norm (P ++ Z) := ⟨_, rfl⟩
          rw [← hQ] at hnew
          have EQ : Hid (Q = norm (P ++ Z)) := hQ
          have sQ : Hid (IsSet Q) := by rw [hQ]; exact isSet_norm (inB_append sP.out.1 sZ.out.1)
          have lQ : Q.length ≤ 180 := by rw [hQ]; exact Nat.le_trans (norm_length_le _) (by simp; omega)
          have hBw12 := hBw11.trans (hB.mono hBw11.size)
          have HA' : Hid (All w12 [(q, Q), (p, P), (x, X), (y, Y), (z, Z)]) := All.cons hnew (HA.out.below hB)
          clear hnew hB hBw11 HA hQ
          have HA := HA'
          clear HA'
          go_wp2_with fail
          refine (union_ok Y Z y z w12 (by omega) (by omega) (HA.out (y, Y) (by simp)) (HA.out (z, Z) (by simp)) sY.out sZ.out).mono ?_
          rintro e w13 ⟨r, rfl, hnew, hB⟩
          obtain ⟨R, hR⟩ : ∃ l, l = norm (Y ++ Z) := ⟨_, rfl⟩
          rw [← hR] at hnew
          have ER : Hid (R = norm (Y ++ Z)) := hR
          have sR : Hid (IsSet R) := by rw [hR]; exact isSet_norm (inB_append sY.out.1 sZ.out.1)
          have lR : R.length ≤ 120 := by rw [hR]; exact Nat.le_trans (norm_length_le _) (by simp; omega)
          have hBw13 := hBw12.trans (hB.mono hBw12.size)
          have HA' : Hid (All w13 [(r, R), (q, Q), (p, P), (x, X), (y, Y), (z, Z)]) := All.cons hnew (HA.out.below hB)
          clear hnew hB hBw12 HA hR
          have HA := HA'
          clear HA'
          go_wp2_with fail
          refine (union_ok X R x r w13 (by omega) (by omega) (HA.out (x, X) (by simp)) (HA.out (r, R) (by simp)) sX.out sR.out).mono ?_
          rintro e w14 ⟨s, rfl, hnew, hB⟩
          obtain ⟨S, hS⟩ : ∃ l, l = norm (X ++ R) := ⟨_, rfl⟩
          rw [← hS] at hnew
          have ES : Hid (S = norm (X ++ R)) := hS
          have sS : Hid (IsSet S) := by rw [hS]; exact isSet_norm (inB_append sX.out.1 sR.out.1)
          have lS : S.length ≤ 180 := by rw [hS]; exact Nat.le_trans (norm_length_le _) (by simp; omega)
          have hBw14 := hBw13.trans (hB.mono hBw13.size)
          have HA' : Hid (All w14 [(s, S), (r, R), (q, Q), (p, P), (x, X), (y, Y), (z, Z)]) := All.cons hnew (HA.out.below hB)
          clear hnew hB hBw13 HA hS
          have HA := HA'
          clear HA'
          go_wp2_with fail
          refine (both_ok X R x r w14 (by omega) (by omega) (HA.out (x, X) (by simp)) (HA.out (r, R) (by simp)) sX.out sR.out sR.out.le).mono ?_
          rintro e w15 ⟨t, rfl, hnew, hB⟩
          obtain ⟨T, hT⟩ : ∃ l, l = (X.filter fun y => R.contains y) := ⟨_, rfl⟩
          rw [← hT] at hnew
          have ET : Hid (T = (X.filter fun y => R.contains y)) := hT
          have sT : Hid (IsSet T) := by rw [hT]; exact isSet_filter sX.out _
          have lT : T.length ≤ 60 := by rw [hT]; exact Nat.le_trans (List.length_filter_le _ _) (by omega)
          have hBw15 := hBw14.trans (hB.mono hBw14.size)
          have HA' : Hid (All w15 [(t, T), (s, S), (r, R), (q, Q), (p, P), (x, X), (y, Y), (z, Z)]) := All.cons hnew (HA.out.below hB)
          clear hnew hB hBw14 HA hT
          have HA := HA'
          clear HA'
          go_wp2_with fail
          refine (both_ok X Y x y w15 (by omega) (by omega) (HA.out (x, X) (by simp)) (HA.out (y, Y) (by simp)) sX.out sY.out sY.out.le).mono ?_
          rintro e w16 ⟨u, rfl, hnew, hB⟩
          obtain ⟨U, hU⟩ : ∃ l, l = (X.filter fun y => Y.contains y) := ⟨_, rfl⟩
          rw [← hU] at hnew
          have EU : Hid (U = (X.filter fun y => Y.contains y)) := hU
          have sU : Hid (IsSet U) := by rw [hU]; exact isSet_filter sX.out _
          have lU : U.length ≤ 60 := by rw [hU]; exact Nat.le_trans (List.length_filter_le _ _) (by omega)
          have hBw16 := hBw15.trans (hB.mono hBw15.size)
          have HA' : Hid (All w16 [(u, U), (t, T), (s, S), (r, R), (q, Q), (p, P), (x, X), (y, Y), (z, Z)]) := All.cons hnew (HA.out.below hB)
          clear hnew hB hBw15 HA hU
          have HA := HA'
          clear HA'
          go_wp2_with fail
          refine (both_ok X Z x z w16 (by omega) (by omega) (HA.out (x, X) (by simp)) (HA.out (z, Z) (by simp)) sX.out sZ.out sZ.out.le).mono ?_
          rintro e w17 ⟨v, rfl, hnew, hB⟩
          obtain ⟨V, hV⟩ : ∃ l, l = (X.filter fun y => Z.contains y) := ⟨_, rfl⟩
          rw [← hV] at hnew
          have EV : Hid (V = (X.filter fun y => Z.contains y)) := hV
          have sV : Hid (IsSet V) := by rw [hV]; exact isSet_filter sX.out _
          have lV : V.length ≤ 60 := by rw [hV]; exact Nat.le_trans (List.length_filter_le _ _) (by omega)
          have hBw17 := hBw16.trans (hB.mono hBw16.size)
          have HA' : Hid (All w17 [(v, V), (u, U), (t, T), (s, S), (r, R), (q, Q), (p, P), (x, X), (y, Y), (z, Z)]) := All.cons hnew (HA.out.below hB)
          clear hnew hB hBw16 HA hV
          have HA := HA'
          clear HA'
          go_wp2_with fail
          refine (union_ok U V u v w17 (by omega) (by omega) (HA.out (u, U) (by simp)) (HA.out (v, V) (by simp)) sU.out sV.out).mono ?_
          rintro e w18 ⟨q8, rfl, hnew, hB⟩
          obtain ⟨W, hW⟩ : ∃ l, l = norm (U ++ V) := ⟨_, rfl⟩
          rw [← hW] at hnew
          have EW : Hid (W = norm (U ++ V)) := hW
          have sW : Hid (IsSet W) := by rw [hW]; exact isSet_norm (inB_append sU.out.1 sV.out.1)
          have lW : W.length ≤ 120 := by rw [hW]; exact Nat.le_trans (norm_length_le _) (by simp; omega)
          have hBw18 := hBw17.trans (hB.mono hBw17.size)
          have HA' : Hid (All w18 [(q8, W), (v, V), (u, U), (t, T), (s, S), (r, R), (q, Q), (p, P), (x, X), (y, Y), (z, Z)]) := All.cons hnew (HA.out.below hB)
          clear hnew hB hBw17 HA hW
          have HA := HA'
          clear HA'
          have hQS : Q = S := by rw [EQ.out, ES.out, EP.out, ER.out]; exact union_assoc X Y Z
          have hTW : T = W := by rw [ET.out, EW.out, EU.out, EV.out, ER.out]; exact both_union X Y Z sX.out
          have HQS : Hid (Q = S) := hQS
          have HTW : Hid (T = W) := hTW
          clear hQS hTW EP EQ ER ES ET EU EV EW
          go_wp2_with fail
          refine (sameInts_true Q q s w18 (by omega) (HA.out (q, Q) (by simp)) (by rw [HQS.out]; exact HA.out (s, S) (by simp))).mono ?_
          rintro e w19 ⟨rfl, hB19⟩
          have hBw19 := hBw18.trans (hB19.mono hBw18.size)
          have HA19 : Hid (All w19 [(q8, W), (v, V), (u, U), (t, T), (s, S), (r, R), (q, Q), (p, P), (x, X), (y, Y), (z, Z)]) := HA.out.below hB19
          clear HA hB19 hBw18
          go_wp2_with fail
          refine (sameInts_true T t q8 w19 (by omega) (HA19.out (t, T) (by simp)) (by rw [HTW.out]; exact HA19.out (q8, W) (by simp))).mono ?_
          rintro e w20 ⟨rfl, hB20⟩
          go_wp2
          go_ret
          exact ⟨rfl, hBw19.trans (hB20.mono hBw19.size)⟩
        · refine (of_no a zs z9 w9 (by rw [← HN.out.2.2]; omega) HX9.out.2.2 hz (HE.out.below hBw9).three).mono ?_
          rintro e w10 ⟨rfl, hB10⟩
          go_wp2_with fail
          go_ret
          exact ⟨rfl, hBw9.trans (hB10.mono hBw9.size)⟩
      · refine (of_no a ys y7 w7 (by rw [← HN.out.2.1]; omega) HX7.out.2 hy (HE.out.below hBw7).three).mono ?_
        rintro e w8 ⟨rfl, hB8⟩
        have hBw8 := hBw7.trans (hB8.mono hBw7.size)
        clear hB8 hBw7 HX7 hy
        go_wp2_with fail
        refine (ownInts_any zs _ w8 (by rw [← HN.out.2.2]; omega) (H3.out.below hBw8)).mono ?_
        rintro e w9 ⟨z9, rfl, hI9, hB9⟩
        have hBw9 := hBw8.trans (hB9.mono hBw8.size)
        have HX9 : Hid (IsInts w9 z9 zs) := hI9
        clear hB9 hBw8 hI9
        go_wp2_with fail
        by_cases hz : InB zs
        · refine (of_ok zs z9 w9 (by rw [← HN.out.2.2]; omega) HX9.out hz).mono ?_
          rintro e w10 ⟨z, rfl, hZ10, hB10⟩
          clear hZ10
          go_wp2_with fail
          go_ret
          exact ⟨rfl, hBw9.trans (hB10.mono hBw9.size)⟩
        · refine (of_no a zs z9 w9 (by rw [← HN.out.2.2]; omega) HX9.out hz (HE.out.below hBw9).three).mono ?_
          rintro e w10 ⟨rfl, hB10⟩
          go_wp2_with fail
          go_ret
          exact ⟨rfl, hBw9.trans (hB10.mono hBw9.size)⟩
end Go.Proofs.YtgmjmadacmgnkaaDoor

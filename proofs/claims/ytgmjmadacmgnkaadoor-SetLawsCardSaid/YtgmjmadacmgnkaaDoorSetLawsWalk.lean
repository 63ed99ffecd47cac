/-
  The law SetLaws, walked.
-/
import Derived.Test.YtgmjmadacmgnkaaDoorUnited
import Derived.Test.YtgmjmadacmgnkaaDoorWithin
import Derived.Test.YtgmjmadacmgnkaaDoorReadE
namespace Go.Proofs.YtgmjmadacmgnkaaDoor
open Go.RowKit Go.Extern.Stop Go.Stop Go.Extern Go.Sort

theorem nodup_rise {l : List Int} (h : l.Pairwise (· < ·)) : l.Nodup := h.imp (fun g => Int.ne_of_lt g)
theorem norm_nodup_length {l : List Int} (h : l.Nodup) : (norm l).length = l.length := by
  have hs : (srt l).Nodup := (srt_perm l).nodup_iff.2 h
  have hlt : (srt l).Pairwise (· < ·) := ((srt_sorted l).and hs).imp (fun g => by omega)
  have e : norm l = srt l := rise_ext _ _ (norm_rise l) hlt fun x => by rw [norm_mem]; exact ((srt_perm l).mem_iff).symm
  rw [e, srt_length]
theorem union_comm (X Y : List Int) : norm (X ++ Y) = norm (Y ++ X) :=
  rise_ext _ _ (norm_rise _) (norm_rise _) fun x => by simp only [norm_mem, List.mem_append]; exact Or.comm
theorem parts_again (X Y : List Int) (hX : IsSet X) : norm (X.filter (fun y => !Y.contains y) ++ X.filter fun y => Y.contains y) = X :=
  rise_ext _ _ (norm_rise _) hX.pairwise fun x => by
    simp only [norm_mem, List.mem_append, List.mem_filter]
    constructor
    · rintro (⟨h, _⟩ | ⟨h, _⟩) <;> exact h
    · intro h
      cases hc : Y.contains x
      · exact Or.inl ⟨h, rfl⟩
      · exact Or.inr ⟨h, rfl⟩
theorem count_union (X Y : List Int) (hX : IsSet X) (hY : IsSet Y) : (norm (X ++ Y)).length + (X.filter fun y => Y.contains y).length = X.length + Y.length := by
  have e1 : norm (X ++ Y) = norm (X ++ Y.filter fun y => !X.contains y) := rise_ext _ _ (norm_rise _) (norm_rise _) fun x => by
    simp only [norm_mem, List.mem_append, List.mem_filter]
    constructor
    · rintro (h | h)
      · exact Or.inl h
      · cases hc : X.contains x
        · exact Or.inr ⟨h, rfl⟩
        · exact Or.inl (List.contains_iff_mem.1 hc)
    · rintro (h | ⟨h, _⟩)
      · exact Or.inl h
      · exact Or.inr h
  have nd : (X ++ Y.filter fun y => !X.contains y).Nodup := by
    rw [List.nodup_append]
    refine ⟨nodup_rise hX.pairwise, (nodup_rise hY.pairwise).filter _, ?_⟩
    intro a ha b hb e
    subst e
    have := (List.mem_filter.1 hb).2
    rw [List.contains_iff_mem.2 ha] at this
    cases this
  have e2 : (X.filter fun y => Y.contains y) = Y.filter fun y => X.contains y := rise_ext _ _ (hX.pairwise.filter _) (hY.pairwise.filter _) fun x => by
    simp only [List.mem_filter, List.contains_iff_mem]
    exact And.comm
  have e3 : (Y.filter fun y => X.contains y).length + (Y.filter fun y => !X.contains y).length = Y.length := by
    have := List.length_eq_countP_add_countP (p := fun y => X.contains y) (l := Y)
    rw [List.countP_eq_length_filter, List.countP_eq_length_filter] at this
    have e4 : (Y.filter fun y => !X.contains y) = Y.filter fun y => decide ¬ X.contains y = true := List.filter_congr fun x _ => by cases X.contains x <;> rfl
    rw [e4]; exact this.symm
  rw [e1, norm_nodup_length nd, List.length_append, e2]
  omega
theorem all_left (X Y : List Int) : (X.all fun x => (norm (X ++ Y)).contains x) = true :=
  List.all_eq_true.2 fun x hx => List.contains_iff_mem.2 ((norm_mem _ x).2 (List.mem_append_left _ hx))
theorem all_right (X Y : List Int) : (Y.all fun x => (norm (X ++ Y)).contains x) = true :=
  List.all_eq_true.2 fun x hx => List.contains_iff_mem.2 ((norm_mem _ x).2 (List.mem_append_right _ hx))
theorem all_both (X Y : List Int) : ((X.filter fun y => Y.contains y).all fun x => Y.contains x) = true :=
  List.all_eq_true.2 fun _ hx => (List.mem_filter.1 hx).2
theorem all_norm (xs : List Int) : ((norm xs).all fun x => xs.contains x) = true :=
  List.all_eq_true.2 fun x hx => List.contains_iff_mem.2 ((norm_mem _ x).1 hx)

/-- Values that each read as their numbers. -/
def Each (w : World) (l : List (Value × List Int)) : Prop := ∀ p, p ∈ l → IsInts w p.1 p.2
theorem Each.below {w w' : World} {l : List (Value × List Int)} (h : Each w l) (hb : Below w.heap.size w w') : Each w' l := fun p hp => (h p hp).below hb
theorem Each.nil (w : World) : Each w [] := fun p hp => by cases hp
theorem Each.cons {w : World} {l : List (Value × List Int)} {v : Value} {zs : List Int} (h : IsInts w v zs) (ha : Each w l) : Each w ((v, zs) :: l) := fun p hp => by
  rcases List.mem_cons.1 hp with e | m
  · subst e; exact h
  · exact ha p m

set_option maxRecDepth 100000 in
set_option maxHeartbeats 2000000 in
theorem laws_long (a1 a2 : Option Addr) (n1 n2 c1 c2 : Nat) (w : World) (ht : Pow w) (h : 60 < n1 ∨ 60 < n2) :
    Calls Tryd.prog 4 #[.slice a1 n1 c1, .slice a2 n2 c2] w fun e w' => e = .returned (.bool true) ∧ Below w.heap.size w w' := by
  have HK : Hid (Calls Tryd.prog 10 #[] w fun e w' => e = .returned (.bool true) ∧ Below w.heap.size w w') := united_any w ht
  clear ht
  by_cases h1 : 60 < n1
  · clear h
    go_enter Tryd.func4, Tryd.ntmps4
    go_wp2_with fail
    refine HK.out.mono ?_
    rintro e w1 ⟨rfl, hB⟩
    go_wp2_with fail
    go_ret
    exact ⟨rfl, hB⟩
  · have h2 : 60 < n2 := by omega
    clear h
    go_enter Tryd.func4, Tryd.ntmps4
    go_wp2_with fail
    refine HK.out.mono ?_
    rintro e w1 ⟨rfl, hB⟩
    go_wp2_with fail
    go_ret
    exact ⟨rfl, hB⟩

set_option maxRecDepth 100000 in
set_option maxHeartbeats 8000000 in
theorem laws_bad (a : Nat → Addr) (xs ys : List Int) (v1 v2 : Value) (w : World) (ht : Pow w) (hE : Three w a) (i1 : IsInts w v1 xs) (i2 : IsInts w v2 ys)
    (l1 : xs.length ≤ 60) (l2 : ys.length ≤ 60) (hin : ¬ InB xs) :
    Calls Tryd.prog 4 #[v1, v2] w fun e w' => e = .returned (.bool true) ∧ Below w.heap.size w w' := by
  have HK : Hid (Calls Tryd.prog 10 #[] w fun e w' => e = .returned (.bool true) ∧ Below w.heap.size w w') := united_any w ht
  have HT : Hid (Pow w) := ht
  have H1 : Hid (IsInts w v1 xs) := i1
  have H2 : Hid (IsInts w v2 ys) := i2
  have HE : Hid (Three w a) := hE
  obtain ⟨a1, c1, rfl⟩ := i1.form
  obtain ⟨a2, c2, rfl⟩ := i2.form
  clear ht i1 i2 hE
  obtain ⟨n, hn⟩ : ∃ n, n = xs.length := ⟨_, rfl⟩
  obtain ⟨n2, hn2⟩ : ∃ n2, n2 = ys.length := ⟨_, rfl⟩
  rw [← hn] at H1 l1 ⊢
  rw [← hn2] at H2 l2 ⊢
  have HN : Hid (n = xs.length ∧ n2 = ys.length) := ⟨hn, hn2⟩
  clear hn hn2
  go_enter Tryd.func4, Tryd.ntmps4
  go_wp2_with fail
  refine HK.out.mono ?_
  rintro e w1 ⟨rfl, hB1⟩
  go_wp2_with fail
  refine (ownInts_any xs _ w1 (by rw [← HN.out.1]; omega) (H1.out.below hB1)).mono ?_
  rintro e w2 ⟨x2, rfl, hI2, hB2⟩
  have hBw2 : Below w.heap.size w w2 := hB1.trans (hB2.mono hB1.size)
  have HI2 : Hid (IsInts w2 x2 xs) := hI2
  clear hI2 hB2 hB1
  go_wp2_with fail
  refine (of_no a xs x2 w2 (by rw [← HN.out.1]; omega) HI2.out hin (HE.out.below hBw2)).mono ?_
  rintro e w3 ⟨rfl, hB3⟩
  have hBw3 : Below w.heap.size w w3 := hBw2.trans (hB3.mono hBw2.size)
  clear hB3 hBw2 HI2 hin
  go_wp2_with fail
  refine (ownInts_any ys _ w3 (by rw [← HN.out.2]; omega) (H2.out.below hBw3)).mono ?_
  rintro e w4 ⟨y4, rfl, hI4, hB4⟩
  have hBw4 : Below w.heap.size w w4 := hBw3.trans (hB4.mono hBw3.size)
  have HI4 : Hid (IsInts w4 y4 ys) := hI4
  clear hI4 hB4 hBw3
  go_wp2_with fail
  by_cases hy : InB ys
  · refine (of_ok ys y4 w4 (by rw [← HN.out.2]; omega) HI4.out hy).mono ?_
    rintro e w5 ⟨y, rfl, hY5, hB5⟩
    clear hY5 hy HI4
    go_wp2_with fail
    go_ret
    exact ⟨rfl, hBw4.trans (hB5.mono hBw4.size)⟩
  · refine (of_no a ys y4 w4 (by rw [← HN.out.2]; omega) HI4.out hy (HE.out.below hBw4)).mono ?_
    rintro e w5 ⟨rfl, hB5⟩
    clear hy HI4
    go_wp2_with fail
    go_ret
    exact ⟨rfl, hBw4.trans (hB5.mono hBw4.size)⟩

set_option maxRecDepth 100000 in
set_option maxHeartbeats 8000000 in
theorem laws_in (a : Nat → Addr) (xs ys : List Int) (v1 v2 : Value) (w : World) (ht : Pow w) (hE : Three w a) (i1 : IsInts w v1 xs) (i2 : IsInts w v2 ys)
    (l1 : xs.length ≤ 60) (l2 : ys.length ≤ 60) (hin : InB xs) (hml : MaxLen w) :
    Calls Tryd.prog 4 #[v1, v2] w fun e w' => e = .returned (.bool true) ∧ Below w.heap.size w w' := by
  have HK : Hid (Calls Tryd.prog 10 #[] w fun e w' => e = .returned (.bool true) ∧ Below w.heap.size w w') := united_any w ht
  have HT : Hid (Pow w) := ht
  have H1 : Hid (IsInts w v1 xs) := i1
  have H2 : Hid (IsInts w v2 ys) := i2
  have HE : Hid (Three w a) := hE
  obtain ⟨a1, c1, rfl⟩ := i1.form
  obtain ⟨a2, c2, rfl⟩ := i2.form
  clear ht i1 i2 hE
  obtain ⟨n, hn⟩ : ∃ n, n = xs.length := ⟨_, rfl⟩
  obtain ⟨n2, hn2⟩ : ∃ n2, n2 = ys.length := ⟨_, rfl⟩
  rw [← hn] at H1 l1 ⊢
  rw [← hn2] at H2 l2 ⊢
  have HN : Hid (n = xs.length ∧ n2 = ys.length) := ⟨hn, hn2⟩
  clear hn hn2
  go_enter Tryd.func4, Tryd.ntmps4
  go_wp2_with fail
  refine HK.out.mono ?_
  rintro e w1 ⟨rfl, hB1⟩
  go_wp2_with fail
  refine (ownInts_any xs _ w1 (by rw [← HN.out.1]; omega) (H1.out.below hB1)).mono ?_
  rintro e w2 ⟨x2, rfl, hI2, hB2⟩
  have hBw2 : Below w.heap.size w w2 := hB1.trans (hB2.mono hB1.size)
  have HI2 : Hid (IsInts w2 x2 xs) := hI2
  clear hI2 hB2 hB1
  go_wp2_with fail
  have HI : Hid (InB xs) := hin
  have HM : Hid (MaxLen w) := hml
  clear hml
  refine (of_ok xs x2 w2 (by rw [← HN.out.1]; omega) HI2.out hin).mono ?_
  rintro e w3 ⟨x, rfl, hX3, hB3⟩
  have hBw3 : Below w.heap.size w w3 := hBw2.trans (hB3.mono hBw2.size)
  have HX3 : Hid (IsInts w3 x (norm xs)) := hX3
  clear hB3 hBw2 HI2 hX3
  go_wp2_with fail
  refine (ownInts_any ys _ w3 (by rw [← HN.out.2]; omega) (H2.out.below hBw3)).mono ?_
  rintro e w4 ⟨y4, rfl, hI4, hB4⟩
  have hBw4 : Below w.heap.size w w4 := hBw3.trans (hB4.mono hBw3.size)
  have HI4 : Hid (IsInts w4 y4 ys ∧ IsInts w4 x (norm xs)) := ⟨hI4, HX3.out.below hB4⟩
  clear hI4 hB4 hBw3 HX3
  go_wp2_with fail
  by_cases hy : InB ys
  · have HYB : Hid (InB ys) := hy
    clear hy
    refine (of_ok ys y4 w4 (by rw [← HN.out.2]; omega) HI4.out.1 HYB.out).mono ?_
    rintro e w10 ⟨y, rfl, hY5, hB5⟩
    have hBw10 := hBw4.trans (hB5.mono hBw4.size)
    have hlX : (norm xs).length ≤ 60 := Nat.le_trans (norm_length_le xs) (by rw [← HN.out.1]; exact l1)
    have hlY : (norm ys).length ≤ 60 := Nat.le_trans (norm_length_le ys) (by rw [← HN.out.2]; exact l2)
    have sX : Hid (IsSet (norm xs)) := isSet_norm HI.out
    have sY : Hid (IsSet (norm ys)) := isSet_norm HYB.out
    have hEX : ∀ z ∈ xs, (norm xs).contains z = true := fun z hz => List.contains_iff_mem.2 ((norm_mem xs z).2 hz)
    have hAX := all_norm xs
    have hX10 : IsInts w10 x (norm xs) := HI4.out.2.below hB5
    have HQ : Hid ((∀ z ∈ xs, (norm xs).contains z = true) ∧ ((norm xs).all fun z => xs.contains z) = true) := ⟨hEX, hAX⟩
    clear hEX hAX hB5 hBw4 HI4 HI HYB HK H2 hin
    generalize norm xs = X at hX10 sX hlX HQ
    generalize norm ys = Y at hY5 sY hlY
    obtain ⟨xa, xc, rfl⟩ := hX10.form
    obtain ⟨ya, yc, rfl⟩ := hY5.form
    obtain ⟨nx, hnx⟩ : ∃ m, m = X.length := ⟨_, rfl⟩
    obtain ⟨ny, hny⟩ : ∃ m, m = Y.length := ⟨_, rfl⟩
    rw [← hnx] at hX10 hlX ⊢
    rw [← hny] at hY5 hlY ⊢
    have HA : Hid (Each w10 [((Value.slice xa nx xc), X), ((Value.slice ya ny yc), Y)]) := Each.cons hX10 (Each.cons hY5 (Each.nil _))
    have HNX : Hid (nx = X.length) := hnx
    have HNY : Hid (ny = Y.length) := hny
    have lX : X.length ≤ 60 := by rw [← hnx]; exact hlX
    have lY : Y.length ≤ 60 := by rw [← hny]; exact hlY
    clear hnx hny hX10 hY5
    go_wp2_with fail
    refine (union_ok X Y (Value.slice xa nx xc) (Value.slice ya ny yc) w10 (by omega) (by omega) (HA.out ((Value.slice xa nx xc), X) (by simp)) (HA.out ((Value.slice ya ny yc), Y) (by simp)) sX.out sY.out).mono ?_
    rintro e w11 ⟨vU, rfl, hnew, hB⟩
    obtain ⟨U, hU⟩ : ∃ l, l = norm (X ++ Y) := ⟨_, rfl⟩
    rw [← hU] at hnew
    have EU : Hid (U = norm (X ++ Y)) := hU
    have sU : Hid (IsSet U) := by rw [hU]; exact isSet_norm (inB_append sX.out.1 sY.out.1)
    have lU : U.length ≤ 120 := by rw [hU]; exact Nat.le_trans (norm_length_le _) (by simp; omega)
    obtain ⟨aU, cU, rfl⟩ := hnew.form
    obtain ⟨nU, hnU⟩ : ∃ m, m = U.length := ⟨_, rfl⟩
    rw [← hnU] at hnew ⊢
    have HNU : Hid (nU = U.length) := hnU
    have hlU : nU ≤ 120 := by rw [hnU]; exact lU
    clear hnU
    have hBw11 := hBw10.trans (hB.mono hBw10.size)
    have HA' : Hid (Each w11 [((Value.slice aU nU cU), U), ((Value.slice xa nx xc), X), ((Value.slice ya ny yc), Y)]) := Each.cons hnew (HA.out.below hB)
    clear hnew hB hBw10 HA hU
    have HA := HA'
    clear HA'
    go_wp2_with fail
    refine (union_ok Y X (Value.slice ya ny yc) (Value.slice xa nx xc) w11 (by omega) (by omega) (HA.out ((Value.slice ya ny yc), Y) (by simp)) (HA.out ((Value.slice xa nx xc), X) (by simp)) sY.out sX.out).mono ?_
    rintro e w12 ⟨vV, rfl, hnew, hB⟩
    obtain ⟨V, hV⟩ : ∃ l, l = norm (Y ++ X) := ⟨_, rfl⟩
    rw [← hV] at hnew
    have EV : Hid (V = norm (Y ++ X)) := hV
    have sV : Hid (IsSet V) := by rw [hV]; exact isSet_norm (inB_append sY.out.1 sX.out.1)
    have lV : V.length ≤ 120 := by rw [hV]; exact Nat.le_trans (norm_length_le _) (by simp; omega)
    have hBw12 := hBw11.trans (hB.mono hBw11.size)
    have HA' : Hid (Each w12 [(vV, V), ((Value.slice aU nU cU), U), ((Value.slice xa nx xc), X), ((Value.slice ya ny yc), Y)]) := Each.cons hnew (HA.out.below hB)
    clear hnew hB hBw11 HA hV
    have HA := HA'
    clear HA'
    go_wp2_with fail
    refine (less_ok X Y (Value.slice xa nx xc) (Value.slice ya ny yc) w12 (by omega) (by omega) (HA.out ((Value.slice xa nx xc), X) (by simp)) (HA.out ((Value.slice ya ny yc), Y) (by simp)) sX.out sY.out sY.out.le).mono ?_
    rintro e w13 ⟨vL, rfl, hnew, hB⟩
    obtain ⟨L, hL⟩ : ∃ l, l = (X.filter fun y => !Y.contains y) := ⟨_, rfl⟩
    rw [← hL] at hnew
    have EL : Hid (L = (X.filter fun y => !Y.contains y)) := hL
    have sL : Hid (IsSet L) := by rw [hL]; exact isSet_filter sX.out _
    have lL : L.length ≤ 60 := by rw [hL]; exact Nat.le_trans (List.length_filter_le _ _) (by omega)
    have hBw13 := hBw12.trans (hB.mono hBw12.size)
    have HA' : Hid (Each w13 [(vL, L), (vV, V), ((Value.slice aU nU cU), U), ((Value.slice xa nx xc), X), ((Value.slice ya ny yc), Y)]) := Each.cons hnew (HA.out.below hB)
    clear hnew hB hBw12 HA hL
    have HA := HA'
    clear HA'
    go_wp2_with fail
    refine (both_ok X Y (Value.slice xa nx xc) (Value.slice ya ny yc) w13 (by omega) (by omega) (HA.out ((Value.slice xa nx xc), X) (by simp)) (HA.out ((Value.slice ya ny yc), Y) (by simp)) sX.out sY.out sY.out.le).mono ?_
    rintro e w14 ⟨vC, rfl, hnew, hB⟩
    obtain ⟨C, hC⟩ : ∃ l, l = (X.filter fun y => Y.contains y) := ⟨_, rfl⟩
    rw [← hC] at hnew
    have EC : Hid (C = (X.filter fun y => Y.contains y)) := hC
    have sC : Hid (IsSet C) := by rw [hC]; exact isSet_filter sX.out _
    have lC : C.length ≤ 60 := by rw [hC]; exact Nat.le_trans (List.length_filter_le _ _) (by omega)
    obtain ⟨aC, cC, rfl⟩ := hnew.form
    obtain ⟨nC, hnC⟩ : ∃ m, m = C.length := ⟨_, rfl⟩
    rw [← hnC] at hnew ⊢
    have HNC : Hid (nC = C.length) := hnC
    have hlC : nC ≤ 60 := by rw [hnC]; exact lC
    clear hnC
    have hBw14 := hBw13.trans (hB.mono hBw13.size)
    have HA' : Hid (Each w14 [((Value.slice aC nC cC), C), (vL, L), (vV, V), ((Value.slice aU nU cU), U), ((Value.slice xa nx xc), X), ((Value.slice ya ny yc), Y)]) := Each.cons hnew (HA.out.below hB)
    clear hnew hB hBw13 HA hC
    have HA := HA'
    clear HA'
    go_wp2_with fail
    refine (union_ok L C vL (Value.slice aC nC cC) w14 (by omega) (by omega) (HA.out (vL, L) (by simp)) (HA.out ((Value.slice aC nC cC), C) (by simp)) sL.out sC.out).mono ?_
    rintro e w15 ⟨vG, rfl, hnew, hB⟩
    obtain ⟨G, hG⟩ : ∃ l, l = norm (L ++ C) := ⟨_, rfl⟩
    rw [← hG] at hnew
    have EG : Hid (G = norm (L ++ C)) := hG
    have sG : Hid (IsSet G) := by rw [hG]; exact isSet_norm (inB_append sL.out.1 sC.out.1)
    have lG : G.length ≤ 120 := by rw [hG]; exact Nat.le_trans (norm_length_le _) (by simp; omega)
    have hBw15 := hBw14.trans (hB.mono hBw14.size)
    have HA' : Hid (Each w15 [(vG, G), ((Value.slice aC nC cC), C), (vL, L), (vV, V), ((Value.slice aU nU cU), U), ((Value.slice xa nx xc), X), ((Value.slice ya ny yc), Y)]) := Each.cons hnew (HA.out.below hB)
    clear hnew hB hBw14 HA hG
    have HA := HA'
    clear HA'
    have hUV : U = V := by rw [EU.out, EV.out]; exact union_comm X Y
    have hGX : G = X := by rw [EG.out, EL.out, EC.out]; exact parts_again X Y sX.out
    have hcount : nU + nC = nx + ny := by
      rw [HNU.out, HNC.out, HNX.out, HNY.out, EU.out, EC.out]; exact count_union X Y sX.out sY.out
    have hw1 : (X.all fun z => U.contains z) = true := by rw [EU.out]; exact all_left X Y
    have hw2 : (Y.all fun z => U.contains z) = true := by rw [EU.out]; exact all_right X Y
    have hw3 : (C.all fun z => Y.contains z) = true := by rw [EC.out]; exact all_both X Y
    have HF : Hid (U = V ∧ G = X ∧ (X.all fun z => U.contains z) = true ∧ (Y.all fun z => U.contains z) = true ∧ (C.all fun z => Y.contains z) = true) := ⟨hUV, hGX, hw1, hw2, hw3⟩
    clear hUV hGX hw1 hw2 hw3 EU EV EL EC EG
    go_wp2_with fail
    refine (text_ok X (Value.slice xa nx xc) w15 (by omega) (HA.out ((Value.slice xa nx xc), X) (by simp)) sX.out (pow_below HT.out (pow_lt HT.out) hBw15)).mono ?_
    rintro e w16 ⟨rfl, hB⟩
    have hBw16 := hBw15.trans (hB.mono hBw15.size)
    have HA' : Hid (Each w16 [(vG, G), ((Value.slice aC nC cC), C), (vL, L), (vV, V), ((Value.slice aU nU cU), U), ((Value.slice xa nx xc), X), ((Value.slice ya ny yc), Y)]) := HA.out.below hB
    clear hB hBw15 HA
    have HA := HA'
    clear HA'
    obtain ⟨st, hst⟩ : ∃ st : ByteArray, st = ⟨(setText X).toArray⟩ := ⟨_, rfl⟩
    rw [← hst]
    have HST : Hid (st.data.toList = setText X) := by
      show st.data.toList = setText X
      rw [hst]
    clear hst
    go_wp2_with fail
    refine (read_back X st w16 (by omega) sX.out (HM.out.below hBw16) HST.out).mono ?_
    rintro e w17 ⟨vT, rfl, hnew, hB⟩
    have hBw17 := hBw16.trans (hB.mono hBw16.size)
    have HA' : Hid (Each w17 [(vT, X), (vG, G), ((Value.slice aC nC cC), C), (vL, L), (vV, V), ((Value.slice aU nU cU), U), ((Value.slice xa nx xc), X), ((Value.slice ya ny yc), Y)]) := Each.cons hnew (HA.out.below hB)
    clear hnew hB hBw16 HA
    have HA := HA'
    clear HA'
    go_wp2_with fail
    refine (sameInts_true U (Value.slice aU nU cU) vV w17 (by omega) (HA.out ((Value.slice aU nU cU), U) (by simp)) (by rw [HF.out.1]; exact HA.out (vV, V) (by simp))).mono ?_
    rintro e w18 ⟨rfl, hB⟩
    have hBw18 := hBw17.trans (hB.mono hBw17.size)
    have HA' : Hid (Each w18 [(vT, X), (vG, G), ((Value.slice aC nC cC), C), (vL, L), (vV, V), ((Value.slice aU nU cU), U), ((Value.slice xa nx xc), X), ((Value.slice ya ny yc), Y)]) := HA.out.below hB
    clear hB hBw17 HA
    have HA := HA'
    clear HA'
    go_wp2_with fail
    refine (sameInts_true G vG (Value.slice xa nx xc) w18 (by omega) (HA.out (vG, G) (by simp)) (by rw [HF.out.2.1]; exact HA.out ((Value.slice xa nx xc), X) (by simp))).mono ?_
    rintro e w19 ⟨rfl, hB⟩
    have hBw19 := hBw18.trans (hB.mono hBw18.size)
    have HA' : Hid (Each w19 [(vT, X), (vG, G), ((Value.slice aC nC cC), C), (vL, L), (vV, V), ((Value.slice aU nU cU), U), ((Value.slice xa nx xc), X), ((Value.slice ya ny yc), Y)]) := HA.out.below hB
    clear hB hBw18 HA
    have HA := HA'
    clear HA'
    go_wp2_with fail
    refine (sameInts_true X vT (Value.slice xa nx xc) w19 (by omega) (HA.out (vT, X) (by simp)) (by exact HA.out ((Value.slice xa nx xc), X) (by simp))).mono ?_
    rintro e w20 ⟨rfl, hB⟩
    have hBw20 := hBw19.trans (hB.mono hBw19.size)
    have HA' : Hid (Each w20 [(vT, X), (vG, G), ((Value.slice aC nC cC), C), (vL, L), (vV, V), ((Value.slice aU nU cU), U), ((Value.slice xa nx xc), X), ((Value.slice ya ny yc), Y)]) := HA.out.below hB
    clear hB hBw19 HA
    have HA := HA'
    clear HA'
    go_wp2_with fail
    have HWI := within_any X U (Value.slice xa nx xc) (Value.slice aU nU cU) w20 (by omega) (by omega) (HA.out ((Value.slice xa nx xc), X) (by simp)) (HA.out ((Value.slice aU nU cU), U) (by simp))
    rw [HF.out.2.2.1] at HWI
    refine HWI.mono ?_
    clear HWI
    rintro e w21 ⟨rfl, hB⟩
    have hBw21 := hBw20.trans (hB.mono hBw20.size)
    have HA' : Hid (Each w21 [(vT, X), (vG, G), ((Value.slice aC nC cC), C), (vL, L), (vV, V), ((Value.slice aU nU cU), U), ((Value.slice xa nx xc), X), ((Value.slice ya ny yc), Y)]) := HA.out.below hB
    clear hB hBw20 HA
    have HA := HA'
    clear HA'
    go_wp2_with fail
    have HWI := within_any Y U (Value.slice ya ny yc) (Value.slice aU nU cU) w21 (by omega) (by omega) (HA.out ((Value.slice ya ny yc), Y) (by simp)) (HA.out ((Value.slice aU nU cU), U) (by simp))
    rw [HF.out.2.2.2.1] at HWI
    refine HWI.mono ?_
    clear HWI
    rintro e w22 ⟨rfl, hB⟩
    have hBw22 := hBw21.trans (hB.mono hBw21.size)
    have HA' : Hid (Each w22 [(vT, X), (vG, G), ((Value.slice aC nC cC), C), (vL, L), (vV, V), ((Value.slice aU nU cU), U), ((Value.slice xa nx xc), X), ((Value.slice ya ny yc), Y)]) := HA.out.below hB
    clear hB hBw21 HA
    have HA := HA'
    clear HA'
    go_wp2_with fail
    have HWI := within_any C Y (Value.slice aC nC cC) (Value.slice ya ny yc) w22 (by omega) (by omega) (HA.out ((Value.slice aC nC cC), C) (by simp)) (HA.out ((Value.slice ya ny yc), Y) (by simp))
    rw [HF.out.2.2.2.2] at HWI
    refine HWI.mono ?_
    clear HWI
    rintro e w23 ⟨rfl, hB⟩
    have hBw23 := hBw22.trans (hB.mono hBw22.size)
    have HA' : Hid (Each w23 [(vT, X), (vG, G), ((Value.slice aC nC cC), C), (vL, L), (vV, V), ((Value.slice aU nU cU), U), ((Value.slice xa nx xc), X), ((Value.slice ya ny yc), Y)]) := HA.out.below hB
    clear hB hBw22 HA
    have HA := HA'
    clear HA'
    have hcount2 : (nU : Int) = nx + ny - nC := by omega
    have HAv : Hid (Each w23 [(vT, X), (vG, G), ((Value.slice aC nC cC), C), (vL, L), (vV, V), ((Value.slice aU nU cU), U), ((Value.slice xa nx xc), X), ((Value.slice ya ny yc), Y)]) := HA.out
    go_wp2_with fail
    go_loopw [20] (fun t wr => ∃ k : Nat, k ≤ n ∧ t = .int .i64 k ∧ wr = w23) (fun t _ => (n - intOf t).toNat)
    case atStart => exact ⟨0, Nat.zero_le _, rfl, rfl⟩
    case round =>
      obtain ⟨k, hk, rfl, rfl⟩ := hrel
      by_cases hlt : k < n
      · rcases H1.out with ⟨hzn, _⟩ | ⟨hzn, b, o, c, hv, hc⟩
        · exfalso; have := HN.out.1; rw [hzn] at this; simp at this; omega
        obtain rfl : a1 = some ⟨b, o, none⟩ := by simpa using (Value.slice.inj hv).1
        have hkl : k < xs.length := by rw [← HN.out.1]; exact hlt
        have e1 := cell_keep hBw23 (hc k hkl)
        have e2 : X.contains (xs.getD k 0) = true := HQ.out.1 _ (by simp [List.getD, hkl])
        generalize xs.getD k 0 = z at e1 e2
        have HE2 : Hid (X.contains z = true) := e2
        clear hv hc hzn hkl e2
        go_wp2_with fail
        have HH := has_any X (Value.slice xa nx xc) z _ (by omega) (HA.out ((Value.slice xa nx xc), X) (by simp))
        rw [HE2.out] at HH
        refine HH.mono ?_
        clear HH
        rintro e w99 ⟨rfl, hw⟩
        obtain rfl := hw.symm
        go_wp2_with fail
        go_roundw
        case rel => exact ⟨k + 1, hlt, by go_num, trivial⟩
        case measure => simp [intOf]; omega
      · go_wp2_with fail
        have HWI := within_any X xs (Value.slice xa nx xc) (.slice a1 n c1) _ (by omega) (by rw [← HN.out.1]; omega) (HA.out ((Value.slice xa nx xc), X) (by simp)) (H1.out.below hBw23)
        rw [HQ.out.2] at HWI
        refine HWI.mono ?_
        clear HWI
        rintro e w98 ⟨rfl, hB98⟩
        have hBw98 := hBw23.trans (hB98.mono hBw23.size)
        have HX98 : Hid (IsInts w98 (Value.slice xa nx xc) X) := (HAv.out ((Value.slice xa nx xc), X) (by simp)).below hB98
        clear hB98
        go_wp2_with fail
        refine (check_ok X (Value.slice xa nx xc) w98 (by omega) HX98.out sX.out.1 sX.out.2).mono ?_
        rintro e w99 ⟨rfl, hB99⟩
        go_wp2
        go_ret
        exact ⟨rfl, hBw98.trans (hB99.mono hBw98.size)⟩
  · refine (of_no a ys y4 w4 (by rw [← HN.out.2]; omega) HI4.out.1 hy (HE.out.below hBw4)).mono ?_
    rintro e w5 ⟨rfl, hB5⟩
    clear hy HI4
    go_wp2_with fail
    go_ret
    exact ⟨rfl, hBw4.trans (hB5.mono hBw4.size)⟩

end Go.Proofs.YtgmjmadacmgnkaaDoor

/-
  The law SetTells, walked.
-/
import Derived.Test.YtgmjmadacmgnkaaGreatDoorUnited
import Derived.Test.YtgmjmadacmgnkaaGreatDoorWithin
import Derived.Test.YtgmjmadacmgnkaaGreatDoorRefSet
import Derived.Test.YtgmjmadacmgnkaaGreatDoorRefI
import Derived.Test.YtgmjmadacmgnkaaGreatDoorTwo
namespace Go.Proofs.YtgmjmadacmgnkaaGreatDoor
open Go.RowKit Go.Extern.Stop Go.Stop Go.Extern Go.Sort

/-- Values that each read as their numbers. -/
def Each (w : World) (l : List (Value × List Int)) : Prop := ∀ p, p ∈ l → IsInts w p.1 p.2
theorem Each.below {w w' : World} {l : List (Value × List Int)} (h : Each w l) (hb : Below w.heap.size w w') : Each w' l := fun p hp => (h p hp).below hb
theorem Each.nil (w : World) : Each w [] := fun p hp => by cases hp
theorem Each.cons {w : World} {l : List (Value × List Int)} {v : Value} {zs : List Int} (h : IsInts w v zs) (ha : Each w l) : Each w ((v, zs) :: l) := fun p hp => by
  rcases List.mem_cons.1 hp with e | m
  · subst e; exact h
  · exact ha p m

/-- Within, and that nothing is less. -/
theorem all_less (xs ys : List Int) (k : Nat) (hk : k = (xs.filter fun y => !ys.contains y).length) : (xs.all fun x => ys.contains x) = ((k : Int) == 0) := by
  cases h : xs.all fun x => ys.contains x with
  | true =>
    have : (xs.filter fun y => !ys.contains y) = [] := List.filter_eq_nil_iff.2 fun x hx => by
      have := List.all_eq_true.1 h x hx
      simp only [this]
      simp
    rw [this] at hk
    subst hk
    rfl
  | false =>
    obtain ⟨x, hx, hn⟩ := List.all_eq_false.1 h
    have hm : x ∈ xs.filter fun y => !ys.contains y := List.mem_filter.2 ⟨hx, by simpa using hn⟩
    have := List.length_pos_iff.2 (List.ne_nil_of_mem hm)
    rw [← hk] at this
    exact (beq_eq_false_iff_ne.2 (by omega)).symm

set_option maxRecDepth 100000 in
set_option maxHeartbeats 2000000 in
theorem tells_long (a1 a2 : Option Addr) (n1 n2 c1 c2 : Nat) (x : Int) (s : ByteArray) (w : World) (ht : Pow w) (h : 60 < n1 ∨ 60 < n2 ∨ 300 < s.size) :
    Calls Tryz.prog 3 #[.slice a1 n1 c1, .slice a2 n2 c2, .int .i64 x, .string s] w fun e w' => e = .returned (.bool true) ∧ Below w.heap.size w w' := by
  have HK : Hid (Calls Tryz.prog 4 #[] w fun e w' => e = .returned (.bool true) ∧ Below w.heap.size w w') := united_any w ht
  clear ht
  by_cases h1 : 60 < n1
  · clear h
    go_enter Tryz.func3, Tryz.ntmps3
    go_wp2_with fail
    refine HK.out.mono ?_
    rintro e w1 ⟨rfl, hB⟩
    go_wp2_with fail
    go_ret
    exact ⟨rfl, hB⟩
  · by_cases h2 : 60 < n2
    · clear h
      go_enter Tryz.func3, Tryz.ntmps3
      go_wp2_with fail
      refine HK.out.mono ?_
      rintro e w1 ⟨rfl, hB⟩
      go_wp2_with fail
      go_ret
      exact ⟨rfl, hB⟩
    · have h3 : 300 < s.size := by omega
      clear h
      go_enter Tryz.func3, Tryz.ntmps3
      go_wp2_with fail
      refine HK.out.mono ?_
      rintro e w1 ⟨rfl, hB⟩
      go_wp2_with fail
      go_ret
      exact ⟨rfl, hB⟩

theorem rd_len {s : ByteArray} {zs : List Int} {c : Int} (h : Rd s zs c) (hs : s.size ≤ 100000) : zs.length ≤ 1000000 := by
  rcases h with ⟨_, rfl, _⟩ | ⟨_, rfl, _⟩ | ⟨I, _, hI, h⟩
  · exact Nat.zero_le _
  · exact Nat.zero_le _
  · rcases h with ⟨_, rfl, _⟩ | ⟨_, _, g1, g2⟩
    · exact Nat.zero_le _
    · by_cases h0 : c = 0
      · rw [g1 h0, List.length_map]
        have h1 := split_len I
        have h2 : s.size = I.length + 2 := by rw [Lib.size_eq, hI]; simp
        omega
      · rw [g2 h0]; exact Nat.zero_le _

set_option maxRecDepth 100000 in
set_option maxHeartbeats 16000000 in
theorem tells_sets (a : Nat → Addr) (xs ys : List Int) (v1 v2 : Value) (x : Int) (s : ByteArray) (w : World) (ht : Pow w) (hE : Errs w a) (hml : MaxLen w) (i1 : IsInts w v1 xs) (i2 : IsInts w v2 ys)
    (l1 : xs.length ≤ 60) (l2 : ys.length ≤ 60) (hs : s.size ≤ 300) (hx : IsSet xs) (hy : IsSet ys) :
    Calls Tryz.prog 3 #[v1, v2, .int .i64 x, .string s] w fun e w' => e = .returned (.bool true) ∧ Below w.heap.size w w' := by
  have HK : Hid (Calls Tryz.prog 4 #[] w fun e w' => e = .returned (.bool true) ∧ Below w.heap.size w w') := united_any w ht
  have HT : Hid (Pow w) := ht
  have HE : Hid (Errs w a) := hE
  have HM : Hid (MaxLen w) := hml
  have L1 : Hid (xs.length ≤ 60) := l1
  have L2 : Hid (ys.length ≤ 60) := l2
  obtain ⟨zs, c3, hrd⟩ := rd_any s
  have HRD : Hid (Rd s zs c3) := hrd
  have EX : Hid (Ec xs 0) := Or.inl ⟨hx, rfl⟩
  have EY : Hid (Ec ys 0) := Or.inl ⟨hy, rfl⟩
  have E2 : Hid (Ec2 xs ys 0) := Or.inr ⟨hx, EY.out⟩
  have SX : Hid (IsSet xs) := hx
  have SY : Hid (IsSet ys) := hy
  obtain ⟨a1, c1, rfl⟩ := i1.form
  obtain ⟨a2, c2', rfl⟩ := i2.form
  have HA : Hid (Each w [(.slice a1 xs.length c1, xs), (.slice a2 ys.length c2', ys)]) := Each.cons i1 (Each.cons i2 (Each.nil _))
  obtain ⟨n1, hn1⟩ : ∃ n, n = xs.length := ⟨_, rfl⟩
  obtain ⟨n2, hn2⟩ : ∃ n, n = ys.length := ⟨_, rfl⟩
  rw [← hn1] at l1 HA ⊢
  rw [← hn2] at l2 HA ⊢
  have HN : Hid (n1 = xs.length ∧ n2 = ys.length) := ⟨hn1, hn2⟩
  have hBx : Below w.heap.size w w := Below.refl _ _
  clear ht hE hml i1 i2 hn1 hn2 hrd hx hy
  go_enter Tryz.func3, Tryz.ntmps3
  go_wp2_with fail
  refine (HK.out).mono ?_
  rintro e w1 ⟨rfl, hB⟩
  have hBw := hBx.trans (hB.mono hBx.size)
  have HA' : Hid (Each w1 [(Value.slice a1 n1 c1, xs), (Value.slice a2 n2 c2', ys)]) := HA.out.below hB
  clear hB hBx HA 
  have HA := HA'
  have hBx := hBw
  clear HA' hBw
  go_wp2_with fail
  refine (ownInts_any xs _ w1 (by have := L1.out; omega) (HA.out (Value.slice a1 n1 c1, xs) (by simp))).mono ?_
  rintro e w2 ⟨x2, rfl, hnew, hB⟩
  have hBw := hBx.trans (hB.mono hBx.size)
  have HA' : Hid (Each w2 [(x2, xs), (Value.slice a1 n1 c1, xs), (Value.slice a2 n2 c2', ys)]) := Each.cons hnew (HA.out.below hB)
  clear hB hBx HA hnew
  have HA := HA'
  have hBx := hBw
  clear HA' hBw
  go_wp2_with fail
  refine (ownInts_any ys _ w2 (by have := L2.out; omega) (HA.out (Value.slice a2 n2 c2', ys) (by simp))).mono ?_
  rintro e w3 ⟨y2, rfl, hnew, hB⟩
  have hBw := hBx.trans (hB.mono hBx.size)
  have HA' : Hid (Each w3 [(y2, ys), (x2, xs), (Value.slice a1 n1 c1, xs), (Value.slice a2 n2 c2', ys)]) := Each.cons hnew (HA.out.below hB)
  clear hB hBx HA hnew
  have HA := HA'
  have hBx := hBw
  clear HA' hBw
  go_wp2_with fail
  refine (refErr_any xs 0 _ w3 (by have := L1.out; omega) (HA.out (Value.slice a1 n1 c1, xs) (by simp)) EX.out).mono ?_
  rintro e w4 ⟨rfl, hB⟩
  have hBw := hBx.trans (hB.mono hBx.size)
  have HA' : Hid (Each w4 [(y2, ys), (x2, xs), (Value.slice a1 n1 c1, xs), (Value.slice a2 n2 c2', ys)]) := HA.out.below hB
  clear hB hBx HA 
  have HA := HA'
  have hBx := hBw
  clear HA' hBw
  go_wp2_with fail
  refine (refErr_any ys 0 _ w4 (by have := L2.out; omega) (HA.out (Value.slice a2 n2 c2', ys) (by simp)) EY.out).mono ?_
  rintro e w5 ⟨rfl, hB⟩
  have hBw := hBx.trans (hB.mono hBx.size)
  have HA' : Hid (Each w5 [(y2, ys), (x2, xs), (Value.slice a1 n1 c1, xs), (Value.slice a2 n2 c2', ys)]) := HA.out.below hB
  clear hB hBx HA 
  have HA := HA'
  have hBx := hBw
  clear HA' hBw
  go_wp2_with fail
  refine (union_any a xs ys 0 x2 y2 w5 (by have := L1.out; omega) (by have := L2.out; omega) (HA.out (x2, xs) (by simp)) (HA.out (y2, ys) (by simp)) E2.out (HE.out.below hBx).three).mono ?_
  rintro e w6 ⟨p, up, P, rfl, htp, hnew, h0p, h1p, hB⟩
  have hBw := hBx.trans (hB.mono hBx.size)
  have HA' : Hid (Each w6 [(p, P), (y2, ys), (x2, xs), (Value.slice a1 n1 c1, xs), (Value.slice a2 n2 c2', ys)]) := Each.cons hnew (HA.out.below hB)
  clear hB hBx HA hnew
  have HA := HA'
  have hBx := hBw
  clear HA' hBw
  have ep := h0p rfl
  have EP : Hid (P = norm (xs ++ ys)) := ep
  clear h0p h1p ep
  have TP : Hid (Told a up 0) := htp
  clear htp
  go_wp2_with fail
  refine (less_any a xs ys 0 x2 y2 w6 (by have := L1.out; omega) (by have := L2.out; omega) (HA.out (x2, xs) (by simp)) (HA.out (y2, ys) (by simp)) E2.out (HE.out.below hBx).three).mono ?_
  rintro e w7 ⟨q, uq, Q, rfl, htq, hnew, h0q, h1q, hB⟩
  have hBw := hBx.trans (hB.mono hBx.size)
  have HA' : Hid (Each w7 [(q, Q), (p, P), (y2, ys), (x2, xs), (Value.slice a1 n1 c1, xs), (Value.slice a2 n2 c2', ys)]) := Each.cons hnew (HA.out.below hB)
  clear hB hBx HA hnew
  have HA := HA'
  have hBx := hBw
  clear HA' hBw
  have eq := h0q rfl
  have EQ : Hid (Q = (xs.filter fun y => !ys.contains y)) := eq
  clear h0q h1q eq
  have TQ : Hid (Told a uq 0) := htq
  clear htq
  go_wp2_with fail
  refine (both_any a xs ys 0 x2 y2 w7 (by have := L1.out; omega) (by have := L2.out; omega) (HA.out (x2, xs) (by simp)) (HA.out (y2, ys) (by simp)) E2.out (HE.out.below hBx).three).mono ?_
  rintro e w8 ⟨r, ur, R, rfl, htr, hnew, h0r, h1r, hB⟩
  have hBw := hBx.trans (hB.mono hBx.size)
  have HA' : Hid (Each w8 [(r, R), (q, Q), (p, P), (y2, ys), (x2, xs), (Value.slice a1 n1 c1, xs), (Value.slice a2 n2 c2', ys)]) := Each.cons hnew (HA.out.below hB)
  clear hB hBx HA hnew
  have HA := HA'
  have hBx := hBw
  clear HA' hBw
  have er := h0r rfl
  have ER : Hid (R = (xs.filter fun y => ys.contains y)) := er
  clear h0r h1r er
  have TR : Hid (Told a ur 0) := htr
  clear htr
  go_wp2_with fail
  refine (check_any a xs 0 x2 w8 (by have := L1.out; omega) (HA.out (x2, xs) (by simp)) EX.out (HE.out.below hBx).three).mono ?_
  rintro e w9 ⟨u0, rfl, ht0, hB⟩
  have hBw := hBx.trans (hB.mono hBx.size)
  have HA' : Hid (Each w9 [(r, R), (q, Q), (p, P), (y2, ys), (x2, xs), (Value.slice a1 n1 c1, xs), (Value.slice a2 n2 c2', ys)]) := HA.out.below hB
  clear hB hBx HA 
  have HA := HA'
  have hBx := hBw
  clear HA' hBw
  have T0 : Hid (Told a u0 0) := ht0
  clear ht0
  go_wp2_with fail
  refine (coded_told a u0 0 w9 (HE.out.below hBx) T0.out).mono ?_
  rintro e w10 ⟨rfl, hB⟩
  have hBw := hBx.trans (hB.mono hBx.size)
  have HA' : Hid (Each w10 [(r, R), (q, Q), (p, P), (y2, ys), (x2, xs), (Value.slice a1 n1 c1, xs), (Value.slice a2 n2 c2', ys)]) := HA.out.below hB
  clear hB hBx HA 
  have HA := HA'
  have hBx := hBw
  clear HA' hBw
  go_wp2_with fail
  refine (coded_told a up 0 w10 (HE.out.below hBx) TP.out).mono ?_
  rintro e w11 ⟨rfl, hB⟩
  have hBw := hBx.trans (hB.mono hBx.size)
  have HA' : Hid (Each w11 [(r, R), (q, Q), (p, P), (y2, ys), (x2, xs), (Value.slice a1 n1 c1, xs), (Value.slice a2 n2 c2', ys)]) := HA.out.below hB
  clear hB hBx HA 
  have HA := HA'
  have hBx := hBw
  clear HA' hBw
  go_wp2_with fail
  refine (coded_told a uq 0 w11 (HE.out.below hBx) TQ.out).mono ?_
  rintro e w12 ⟨rfl, hB⟩
  have hBw := hBx.trans (hB.mono hBx.size)
  have HA' : Hid (Each w12 [(r, R), (q, Q), (p, P), (y2, ys), (x2, xs), (Value.slice a1 n1 c1, xs), (Value.slice a2 n2 c2', ys)]) := HA.out.below hB
  clear hB hBx HA 
  have HA := HA'
  have hBx := hBw
  clear HA' hBw
  go_wp2_with fail
  refine (coded_told a ur 0 w12 (HE.out.below hBx) TR.out).mono ?_
  rintro e w13 ⟨rfl, hB⟩
  have hBw := hBx.trans (hB.mono hBx.size)
  have HA' : Hid (Each w13 [(r, R), (q, Q), (p, P), (y2, ys), (x2, xs), (Value.slice a1 n1 c1, xs), (Value.slice a2 n2 c2', ys)]) := HA.out.below hB
  clear hB hBx HA 
  have HA := HA'
  have hBx := hBw
  clear HA' hBw
  obtain ⟨hb, hhb⟩ : ∃ hb, hb = xs.contains x := ⟨_, rfl⟩
  have HHB : Hid (hb = xs.contains x) := hhb
  clear hhb
  go_wp2_with fail
  have H1 := has_any xs x2 x w13 (by have := L1.out; omega) (HA.out (x2, xs) (by simp))
  rw [← HHB.out] at H1
  refine H1.mono ?_
  clear H1
  rintro e wz ⟨rfl, hw⟩
  obtain rfl := hw.symm
  go_wp2_with fail
  have H1 := refHas_any xs (Value.slice a1 n1 c1) x w13 (by have := L1.out; omega) (HA.out (Value.slice a1 n1 c1, xs) (by simp))
  rw [← HHB.out] at H1
  refine H1.mono ?_
  clear H1 HHB
  rintro e wz ⟨rfl, hw⟩
  obtain rfl := hw.symm
  go_wp2_with fail
  go_loopw [20, 21, 22] (fun l m t wr => ∃ k : Nat, k ≤ n1 ∧ t = .int .i64 k ∧ wr.ownsRow w13.heap.size 3 1 l ((xs.take k).filter fun y => !ys.contains y).length (((xs.take k).filter fun y => !ys.contains y).map (Value.int .i64)) ∧ wr.ownsRow w13.heap.size 3 1 m ((xs.take k).filter fun y => ys.contains y).length (((xs.take k).filter fun y => ys.contains y).map (Value.int .i64)) ∧ Apart l m ∧ Below w13.heap.size w13 wr) (fun _ _ t _ => (n1 - intOf t).toNat)
  case atStart => exact ⟨0, Nat.zero_le _, rfl, World.ownsRow_nil _ _ _ _, World.ownsRow_nil _ _ _ _, Or.inl rfl, Below.refl _ _⟩
  case round =>
    obtain ⟨k, hk, rfl, hol, hom, hap, hB⟩ := hrel
    have HO : Hid (wr.ownsRow w13.heap.size 3 1 u20 ((xs.take k).filter fun y => !ys.contains y).length (((xs.take k).filter fun y => !ys.contains y).map (Value.int .i64)) ∧ wr.ownsRow w13.heap.size 3 1 u21 ((xs.take k).filter fun y => ys.contains y).length (((xs.take k).filter fun y => ys.contains y).map (Value.int .i64)) ∧ Apart u20 u21) := ⟨hol, hom, hap⟩
    have hsz : w13.heap.size ≤ wr.heap.size := hB.size
    clear hol hom hap
    by_cases hlt : k < n1
    · have hkz : k < xs.length := by rw [← HN.out.1]; exact hlt
      rcases (show IsInts w13 (Value.slice a1 n1 c1) xs from (HA.out (Value.slice a1 n1 c1, xs) (by simp))) with ⟨hzn, _⟩ | ⟨hzn, bb, o, cc, hv, hc⟩
      · exfalso; rw [hzn] at hkz; exact absurd hkz (Nat.not_lt_zero _)
      obtain rfl : a1 = some ⟨bb, o, none⟩ := by simpa using (Value.slice.inj hv).1
      have e1 := cell_keep hB (hc k hkz)
      have hll : ((xs.take k).filter fun y => !ys.contains y).length ≤ 60 := Nat.le_trans (List.length_filter_le _ _) (Nat.le_trans (List.length_take_le _ _) (by omega))
      have hcl : ((xs.take k).filter fun y => ys.contains y).length ≤ 60 := Nat.le_trans (List.length_filter_le _ _) (Nat.le_trans (List.length_take_le _ _) (by omega))
      obtain ⟨z, hz⟩ : ∃ z, z = xs.getD k 0 := ⟨_, rfl⟩
      have hstep : ∀ b, ys.contains z = b → (b = true → ((xs.take (k + 1)).filter fun y => !ys.contains y) = ((xs.take k).filter fun y => !ys.contains y) ∧ ((xs.take (k + 1)).filter fun y => ys.contains y) = ((xs.take k).filter fun y => ys.contains y) ++ [z]) ∧ (b = false → ((xs.take (k + 1)).filter fun y => !ys.contains y) = ((xs.take k).filter fun y => !ys.contains y) ++ [z] ∧ ((xs.take (k + 1)).filter fun y => ys.contains y) = ((xs.take k).filter fun y => ys.contains y)) := by
        intro b hb
        refine ⟨fun g => ?_, fun g => ?_⟩
        · rw [hz]
          have hb2 : ys.contains (xs.getD k 0) = true := by rw [← hz, hb, g]
          exact ⟨filter_no _ xs k hkz (by rw [hb2]; rfl), filter_yes _ xs k hkz hb2⟩
        · rw [hz]
          have hb2 : ys.contains (xs.getD k 0) = false := by rw [← hz, hb, g]
          exact ⟨filter_yes _ xs k hkz (by rw [hb2]; rfl), filter_no _ xs k hkz hb2⟩
      rw [← hz] at e1
      have HIY : Hid (IsInts wr (Value.slice a2 n2 c2') ys ∧ ys.length ≤ 1000000) := ⟨(HA.out (Value.slice a2 n2 c2', ys) (by simp)).below hB, (by have := L2.out; omega)⟩
      clear hz hkz hzn hc hv
      cases hcb : ys.contains z with
      | true =>
        have HCB : Hid (ys.contains z = true) := hcb
        have hst := (hstep true hcb).1 rfl
        obtain ⟨v', w', hr, ho1, ho2, hap, hB2⟩ := two_append wr w13.heap.size u21 u20 ((xs.take k).filter fun y => ys.contains y) ((xs.take k).filter fun y => !ys.contains y) HO.out.2.1 HO.out.1 HO.out.2.2.symm hsz (by omega) z 22
        have HX : Hid (w'.ownsRow w13.heap.size 3 1 u20 ((xs.take (k + 1)).filter fun y => !ys.contains y).length (((xs.take (k + 1)).filter fun y => !ys.contains y).map (Value.int .i64)) ∧ w'.ownsRow w13.heap.size 3 1 v' ((xs.take (k + 1)).filter fun y => ys.contains y).length (((xs.take (k + 1)).filter fun y => ys.contains y).map (Value.int .i64)) ∧ Apart u20 v' ∧ Below w13.heap.size w13 w') := ⟨by rw [hst.1]; exact ho2, by rw [hst.2]; exact ho1, hap.symm, hB.trans hB2⟩
        clear hst hstep ho1 ho2 hap hB2 hll hcl HO hcb
        go_wp2_with fail
        have hH := refHas_any ys _ z wr HIY.out.2 HIY.out.1
        rw [HCB.out] at hH
        refine hH.mono ?_
        clear hH
        rintro e wz ⟨rfl, hw⟩
        obtain rfl := hw.symm
        go_wp2_with (at_builtin; refine Lib.wpList_append_run _ rfl _ _ _ _ rfl _ _ rfl rfl _ _ hr ?_)
        go_roundw
        case rel => exact ⟨k + 1, hlt, by go_num, HX.out.1, HX.out.2.1, HX.out.2.2.1, HX.out.2.2.2⟩
        case measure => simp [intOf]; omega
      | false =>
        have HCB : Hid (ys.contains z = false) := hcb
        have hst := (hstep false hcb).2 rfl
        obtain ⟨v', w', hr, ho1, ho2, hap, hB2⟩ := two_append wr w13.heap.size u20 u21 ((xs.take k).filter fun y => !ys.contains y) ((xs.take k).filter fun y => ys.contains y) HO.out.1 HO.out.2.1 HO.out.2.2 hsz (by omega) z 22
        have HX : Hid (w'.ownsRow w13.heap.size 3 1 v' ((xs.take (k + 1)).filter fun y => !ys.contains y).length (((xs.take (k + 1)).filter fun y => !ys.contains y).map (Value.int .i64)) ∧ w'.ownsRow w13.heap.size 3 1 u21 ((xs.take (k + 1)).filter fun y => ys.contains y).length (((xs.take (k + 1)).filter fun y => ys.contains y).map (Value.int .i64)) ∧ Apart v' u21 ∧ Below w13.heap.size w13 w') := ⟨by rw [hst.1]; exact ho1, by rw [hst.2]; exact ho2, hap, hB.trans hB2⟩
        clear hst hstep ho1 ho2 hap hB2 hll hcl HO hcb
        go_wp2_with fail
        have hH := refHas_any ys _ z wr HIY.out.2 HIY.out.1
        rw [HCB.out] at hH
        refine hH.mono ?_
        clear hH
        rintro e wz ⟨rfl, hw⟩
        obtain rfl := hw.symm
        go_wp2_with (at_builtin; refine Lib.wpList_append_run _ rfl _ _ _ _ rfl _ _ rfl rfl _ _ hr ?_)
        go_roundw
        case rel => exact ⟨k + 1, hlt, by go_num, HX.out.1, HX.out.2.1, HX.out.2.2.1, HX.out.2.2.2⟩
        case measure => simp [intOf]; omega
    · have hkn : k = xs.length := by rw [← HN.out.1]; omega
      have hl := isInts_of_owns HO.out.1
      have hm := isInts_of_owns HO.out.2.1
      rw [hkn, List.take_length] at hl hm
      clear HO hkn
      obtain ⟨la, lc, rfl⟩ := hl.form
      obtain ⟨nl, hnl⟩ : ∃ nl, nl = (xs.filter fun y => !ys.contains y).length := ⟨_, rfl⟩
      rw [← hnl] at hl ⊢
      have hwl := all_less xs ys nl hnl
      have hnl60 : nl ≤ 60 := by rw [hnl]; exact Nat.le_trans (List.length_filter_le _ _) L1.out
      clear hnl
      have hBw := hBx.trans (hB.mono hBx.size)
      have HA' : Hid (Each wr [(u21, (xs.filter fun y => ys.contains y)), (Value.slice la nl lc, (xs.filter fun y => !ys.contains y)), (r, R), (q, Q), (p, P), (y2, ys), (x2, xs), (Value.slice a1 n1 c1, xs), (Value.slice a2 n2 c2', ys)]) := Each.cons hm (Each.cons hl (HA.out.below hB))
      clear hB hBx HA hm hl
      have HA := HA'
      have hBx := hBw
      clear HA' hBw
      obtain ⟨wb, hwb⟩ : ∃ wb, wb = ((nl : Int) == 0) := ⟨_, rfl⟩
      have HWL : Hid ((xs.all fun x => ys.contains x) = wb) := by
        show _ = wb
        rw [hwl, hwb]
      have hwb2 : ((nl : Int) == 0) = wb := hwb.symm
      clear hwl hwb
      go_wp2_with fail
      have H1 := within_any xs ys x2 y2 wr (by have := L1.out; omega) (by have := L2.out; omega) (HA.out (x2, xs) (by simp)) (HA.out (y2, ys) (by simp))
      rw [HWL.out] at H1
      refine (H1).mono ?_
      rintro e w15 ⟨rfl, hB⟩
      have hBw := hBx.trans (hB.mono hBx.size)
      have HA' : Hid (Each w15 [(u21, (xs.filter fun y => ys.contains y)), (Value.slice la nl lc, (xs.filter fun y => !ys.contains y)), (r, R), (q, Q), (p, P), (y2, ys), (x2, xs), (Value.slice a1 n1 c1, xs), (Value.slice a2 n2 c2', ys)]) := HA.out.below hB
      clear hB hBx HA 
      have HA := HA'
      have hBx := hBw
      clear HA' hBw
      clear H1
      obtain ⟨va, wa, hra, hoa, hga⟩ := run_append_ints w15 w15.heap.size (.slice none 0 0) 0 [] (World.ownsRow_nil _ _ _ _) (Value.slice a1 n1 c1) xs (HA.out (Value.slice a1 n1 c1, xs) (by simp)) (by have := L1.out; omega) (Nat.le_refl _) 22
      have hB : Below w15.heap.size w15 wa := below_of_grown hga (Nat.le_refl _) (World.ownsRow_nil w15 w15.heap.size _ _) (Nat.le_refl _)
      have HOA : Hid (wa.ownsRow w15.heap.size 3 1 va (0 + xs.length) ([] ++ xs.map (Value.int .i64))) := hoa
      have hbs : w15.heap.size ≤ wa.heap.size := hB.size
      obtain ⟨vb, wb2, hrb, hob, hgb⟩ := run_append_ints wa w15.heap.size va (0 + xs.length) _ HOA.out (Value.slice a2 n2 c2') ys ((HA.out (Value.slice a2 n2 c2', ys) (by simp)).below hB) (by have := L1.out; have := L2.out; omega) hbs 22
      have hB' : Below w15.heap.size w15 wb2 := hB.trans (below_of_grown hgb hbs HOA.out (Nat.le_refl _))
      have hnew : IsInts wb2 vb (xs ++ ys) := isInts_of_owns (n := 0 + xs.length + ys.length) (by simpa using hob)
      clear hoa hga hob hgb HOA hbs hB
      have hB := hB'
      clear hB'
      have hBw := hBx.trans (hB.mono hBx.size)
      have HA' : Hid (Each wb2 [(vb, (xs ++ ys)), (u21, (xs.filter fun y => ys.contains y)), (Value.slice la nl lc, (xs.filter fun y => !ys.contains y)), (r, R), (q, Q), (p, P), (y2, ys), (x2, xs), (Value.slice a1 n1 c1, xs), (Value.slice a2 n2 c2', ys)]) := Each.cons hnew (HA.out.below hB)
      clear hB hBx HA hnew
      have HA := HA'
      have hBx := hBw
      clear HA' hBw
      go_wp2_with (at_builtin; first | refine Lib.wpList_append_run _ rfl _ _ _ _ rfl _ _ rfl rfl _ _ hra ?_ | refine Lib.wpList_append_run _ rfl _ _ _ _ rfl _ _ rfl rfl _ _ hrb ?_)
      go_wp2_with fail
      refine (ref_setOf (xs ++ ys) vb wb2 (by have := L1.out; have := L2.out; simp; omega) (HA.out (vb, (xs ++ ys)) (by simp)) (inB_append SX.out.1 SY.out.1)).mono ?_
      rintro e w17 ⟨k2, rfl, hnew, hB⟩
      have hBw := hBx.trans (hB.mono hBx.size)
      have HA' : Hid (Each w17 [(k2, (canon (xs ++ ys))), (vb, (xs ++ ys)), (u21, (xs.filter fun y => ys.contains y)), (Value.slice la nl lc, (xs.filter fun y => !ys.contains y)), (r, R), (q, Q), (p, P), (y2, ys), (x2, xs), (Value.slice a1 n1 c1, xs), (Value.slice a2 n2 c2', ys)]) := Each.cons hnew (HA.out.below hB)
      clear hB hBx HA hnew
      have HA := HA'
      have hBx := hBw
      clear HA' hBw
      have hP : P = canon (xs ++ ys) := by rw [EP.out]; exact norm_eq_canon (inB_append SX.out.1 SY.out.1)
      have hPl : P.length ≤ 1000000 := by rw [EP.out]; exact Nat.le_trans (norm_length_le _) (by have := L1.out; have := L2.out; simp; omega)
      have HP : Hid (P = canon (xs ++ ys) ∧ P.length ≤ 1000000) := ⟨hP, hPl⟩
      clear hP hPl
      go_wp2_with fail
      refine (sameInts_true P p k2 w17 HP.out.2 (HA.out (p, P) (by simp)) (by rw [HP.out.1]; exact (HA.out (k2, (canon (xs ++ ys))) (by simp)))).mono ?_
      rintro e w18 ⟨rfl, hB⟩
      have hBw := hBx.trans (hB.mono hBx.size)
      have HA' : Hid (Each w18 [(k2, (canon (xs ++ ys))), (vb, (xs ++ ys)), (u21, (xs.filter fun y => ys.contains y)), (Value.slice la nl lc, (xs.filter fun y => !ys.contains y)), (r, R), (q, Q), (p, P), (y2, ys), (x2, xs), (Value.slice a1 n1 c1, xs), (Value.slice a2 n2 c2', ys)]) := HA.out.below hB
      clear hB hBx HA 
      have HA := HA'
      have hBx := hBw
      clear HA' hBw
      go_wp2_with fail
      refine (sameInts_true (xs.filter fun y => !ys.contains y) q (Value.slice la nl lc) w18 (Nat.le_trans (List.length_filter_le _ _) (by have := L1.out; omega)) (by rw [← EQ.out]; exact (HA.out (q, Q) (by simp))) (HA.out (Value.slice la nl lc, (xs.filter fun y => !ys.contains y)) (by simp))).mono ?_
      rintro e w19 ⟨rfl, hB⟩
      have hBw := hBx.trans (hB.mono hBx.size)
      have HA' : Hid (Each w19 [(k2, (canon (xs ++ ys))), (vb, (xs ++ ys)), (u21, (xs.filter fun y => ys.contains y)), (Value.slice la nl lc, (xs.filter fun y => !ys.contains y)), (r, R), (q, Q), (p, P), (y2, ys), (x2, xs), (Value.slice a1 n1 c1, xs), (Value.slice a2 n2 c2', ys)]) := HA.out.below hB
      clear hB hBx HA 
      have HA := HA'
      have hBx := hBw
      clear HA' hBw
      go_wp2_with fail
      refine (sameInts_true (xs.filter fun y => ys.contains y) r u21 w19 (Nat.le_trans (List.length_filter_le _ _) (by have := L1.out; omega)) (by rw [← ER.out]; exact (HA.out (r, R) (by simp))) (HA.out (u21, (xs.filter fun y => ys.contains y)) (by simp))).mono ?_
      rintro e w20 ⟨rfl, hB⟩
      have hBw := hBx.trans (hB.mono hBx.size)
      have HA' : Hid (Each w20 [(k2, (canon (xs ++ ys))), (vb, (xs ++ ys)), (u21, (xs.filter fun y => ys.contains y)), (Value.slice la nl lc, (xs.filter fun y => !ys.contains y)), (r, R), (q, Q), (p, P), (y2, ys), (x2, xs), (Value.slice a1 n1 c1, xs), (Value.slice a2 n2 c2', ys)]) := HA.out.below hB
      clear hB hBx HA 
      have HA := HA'
      have hBx := hBw
      clear HA' hBw
      obtain ⟨st, hst⟩ : ∃ st : ByteArray, st = ⟨(setText xs).toArray⟩ := ⟨_, rfl⟩
      have HST : Hid (st = ⟨(setText xs).toArray⟩) := hst
      clear hst
      go_wp2_with fail
      have H1 := refText xs (Value.slice a1 n1 c1) w20 (by have := L1.out; omega) (HA.out (Value.slice a1 n1 c1, xs) (by simp)) SX.out.1
      rw [← HST.out] at H1
      refine (H1).mono ?_
      rintro e w21 ⟨rfl, hB⟩
      have hBw := hBx.trans (hB.mono hBx.size)
      have HA' : Hid (Each w21 [(k2, (canon (xs ++ ys))), (vb, (xs ++ ys)), (u21, (xs.filter fun y => ys.contains y)), (Value.slice la nl lc, (xs.filter fun y => !ys.contains y)), (r, R), (q, Q), (p, P), (y2, ys), (x2, xs), (Value.slice a1 n1 c1, xs), (Value.slice a2 n2 c2', ys)]) := HA.out.below hB
      clear hB hBx HA 
      have HA := HA'
      have hBx := hBw
      clear HA' hBw
      clear H1
      go_wp2_with fail
      refine (read_any a s zs c3 w21 (by omega) (HE.out.below hBx).three (HM.out.below hBx) HRD.out).mono ?_
      rintro e w22 ⟨z1, u3, rfl, ht3, hnew, hB⟩
      have hBw := hBx.trans (hB.mono hBx.size)
      have HA' : Hid (Each w22 [(z1, zs), (k2, (canon (xs ++ ys))), (vb, (xs ++ ys)), (u21, (xs.filter fun y => ys.contains y)), (Value.slice la nl lc, (xs.filter fun y => !ys.contains y)), (r, R), (q, Q), (p, P), (y2, ys), (x2, xs), (Value.slice a1 n1 c1, xs), (Value.slice a2 n2 c2', ys)]) := Each.cons hnew (HA.out.below hB)
      clear hB hBx HA hnew
      have HA := HA'
      have hBx := hBw
      clear HA' hBw
      have T3 : Hid (Told a u3 c3) := ht3
      clear ht3
      go_wp2_with fail
      refine (refRead_any s zs c3 w22 (by omega) HRD.out).mono ?_
      rintro e w23 ⟨z2, rfl, hnew, hB⟩
      have hBw := hBx.trans (hB.mono hBx.size)
      have HA' : Hid (Each w23 [(z2, zs), (z1, zs), (k2, (canon (xs ++ ys))), (vb, (xs ++ ys)), (u21, (xs.filter fun y => ys.contains y)), (Value.slice la nl lc, (xs.filter fun y => !ys.contains y)), (r, R), (q, Q), (p, P), (y2, ys), (x2, xs), (Value.slice a1 n1 c1, xs), (Value.slice a2 n2 c2', ys)]) := Each.cons hnew (HA.out.below hB)
      clear hB hBx HA hnew
      have HA := HA'
      have hBx := hBw
      clear HA' hBw
      go_wp2_with fail
      have H1 := text_ok xs x2 w23 (by have := L1.out; omega) (HA.out (x2, xs) (by simp)) SX.out (pow_below HT.out (pow_lt HT.out) hBx)
      rw [← HST.out] at H1
      refine (H1).mono ?_
      rintro e w24 ⟨rfl, hB⟩
      have hBw := hBx.trans (hB.mono hBx.size)
      have HA' : Hid (Each w24 [(z2, zs), (z1, zs), (k2, (canon (xs ++ ys))), (vb, (xs ++ ys)), (u21, (xs.filter fun y => ys.contains y)), (Value.slice la nl lc, (xs.filter fun y => !ys.contains y)), (r, R), (q, Q), (p, P), (y2, ys), (x2, xs), (Value.slice a1 n1 c1, xs), (Value.slice a2 n2 c2', ys)]) := HA.out.below hB
      clear hB hBx HA 
      have HA := HA'
      have hBx := hBw
      clear HA' hBw
      clear H1
      go_wp2_with fail
      refine (coded_told a u3 c3 w24 (HE.out.below hBx) T3.out).mono ?_
      rintro e w25 ⟨rfl, hB⟩
      have hBw := hBx.trans (hB.mono hBx.size)
      have HA' : Hid (Each w25 [(z2, zs), (z1, zs), (k2, (canon (xs ++ ys))), (vb, (xs ++ ys)), (u21, (xs.filter fun y => ys.contains y)), (Value.slice la nl lc, (xs.filter fun y => !ys.contains y)), (r, R), (q, Q), (p, P), (y2, ys), (x2, xs), (Value.slice a1 n1 c1, xs), (Value.slice a2 n2 c2', ys)]) := HA.out.below hB
      clear hB hBx HA 
      have HA := HA'
      have hBx := hBw
      clear HA' hBw
      go_wp2_with fail
      refine (sameInts_true zs z1 z2 w25 (rd_len HRD.out (by omega)) (HA.out (z1, zs) (by simp)) (HA.out (z2, zs) (by simp))).mono ?_
      rintro e w26 ⟨rfl, hB⟩
      have hBw := hBx.trans (hB.mono hBx.size)
      have HA' : Hid (Each w26 [(z2, zs), (z1, zs), (k2, (canon (xs ++ ys))), (vb, (xs ++ ys)), (u21, (xs.filter fun y => ys.contains y)), (Value.slice la nl lc, (xs.filter fun y => !ys.contains y)), (r, R), (q, Q), (p, P), (y2, ys), (x2, xs), (Value.slice a1 n1 c1, xs), (Value.slice a2 n2 c2', ys)]) := HA.out.below hB
      clear hB hBx HA 
      have HA := HA'
      have hBx := hBw
      clear HA' hBw
      go_wp2_with fail
      go_ret
      exact ⟨rfl, hBx⟩

set_option maxRecDepth 100000 in
set_option maxHeartbeats 16000000 in
theorem tells_second (a : Nat → Addr) (xs ys : List Int) (v1 v2 : Value) (x : Int) (s : ByteArray) (w : World) (ht : Pow w) (hE : Errs w a) (hml : MaxLen w) (i1 : IsInts w v1 xs) (i2 : IsInts w v2 ys)
    (l1 : xs.length ≤ 60) (l2 : ys.length ≤ 60) (hs : s.size ≤ 300) (c2 : Int) (hx : IsSet xs) (hy : Ec ys c2) (hc2 : 0 < c2) :
    Calls Tryz.prog 3 #[v1, v2, .int .i64 x, .string s] w fun e w' => e = .returned (.bool true) ∧ Below w.heap.size w w' := by
  have HK : Hid (Calls Tryz.prog 4 #[] w fun e w' => e = .returned (.bool true) ∧ Below w.heap.size w w') := united_any w ht
  have HT : Hid (Pow w) := ht
  have HE : Hid (Errs w a) := hE
  have HM : Hid (MaxLen w) := hml
  have L1 : Hid (xs.length ≤ 60) := l1
  have L2 : Hid (ys.length ≤ 60) := l2
  obtain ⟨zs, c3, hrd⟩ := rd_any s
  have HRD : Hid (Rd s zs c3) := hrd
  have EX : Hid (Ec xs 0) := Or.inl ⟨hx, rfl⟩
  have EY : Hid (Ec ys c2) := hy
  have h0 : c2 ≠ 0 := by omega
  have E2 : Hid (Ec2 xs ys c2) := Or.inr ⟨hx, hy⟩
  have SX : Hid (IsSet xs) := hx
  have H0 : Hid (c2 ≠ 0) := h0
  obtain ⟨a1, c1, rfl⟩ := i1.form
  obtain ⟨a2, c2', rfl⟩ := i2.form
  have HA : Hid (Each w [(.slice a1 xs.length c1, xs), (.slice a2 ys.length c2', ys)]) := Each.cons i1 (Each.cons i2 (Each.nil _))
  obtain ⟨n1, hn1⟩ : ∃ n, n = xs.length := ⟨_, rfl⟩
  obtain ⟨n2, hn2⟩ : ∃ n, n = ys.length := ⟨_, rfl⟩
  rw [← hn1] at l1 HA ⊢
  rw [← hn2] at l2 HA ⊢
  have HN : Hid (n1 = xs.length ∧ n2 = ys.length) := ⟨hn1, hn2⟩
  have hBx : Below w.heap.size w w := Below.refl _ _
  clear ht hE hml i1 i2 hn1 hn2 hrd hx hy h0
  go_enter Tryz.func3, Tryz.ntmps3
  go_wp2_with fail
  refine (HK.out).mono ?_
  rintro e w1 ⟨rfl, hB⟩
  have hBw := hBx.trans (hB.mono hBx.size)
  have HA' : Hid (Each w1 [(Value.slice a1 n1 c1, xs), (Value.slice a2 n2 c2', ys)]) := HA.out.below hB
  clear hB hBx HA 
  have HA := HA'
  have hBx := hBw
  clear HA' hBw
  go_wp2_with fail
  refine (ownInts_any xs _ w1 (by have := L1.out; omega) (HA.out (Value.slice a1 n1 c1, xs) (by simp))).mono ?_
  rintro e w2 ⟨x2, rfl, hnew, hB⟩
  have hBw := hBx.trans (hB.mono hBx.size)
  have HA' : Hid (Each w2 [(x2, xs), (Value.slice a1 n1 c1, xs), (Value.slice a2 n2 c2', ys)]) := Each.cons hnew (HA.out.below hB)
  clear hB hBx HA hnew
  have HA := HA'
  have hBx := hBw
  clear HA' hBw
  go_wp2_with fail
  refine (ownInts_any ys _ w2 (by have := L2.out; omega) (HA.out (Value.slice a2 n2 c2', ys) (by simp))).mono ?_
  rintro e w3 ⟨y2, rfl, hnew, hB⟩
  have hBw := hBx.trans (hB.mono hBx.size)
  have HA' : Hid (Each w3 [(y2, ys), (x2, xs), (Value.slice a1 n1 c1, xs), (Value.slice a2 n2 c2', ys)]) := Each.cons hnew (HA.out.below hB)
  clear hB hBx HA hnew
  have HA := HA'
  have hBx := hBw
  clear HA' hBw
  go_wp2_with fail
  refine (refErr_any xs 0 _ w3 (by have := L1.out; omega) (HA.out (Value.slice a1 n1 c1, xs) (by simp)) EX.out).mono ?_
  rintro e w4 ⟨rfl, hB⟩
  have hBw := hBx.trans (hB.mono hBx.size)
  have HA' : Hid (Each w4 [(y2, ys), (x2, xs), (Value.slice a1 n1 c1, xs), (Value.slice a2 n2 c2', ys)]) := HA.out.below hB
  clear hB hBx HA 
  have HA := HA'
  have hBx := hBw
  clear HA' hBw
  go_wp2_with fail
  refine (refErr_any ys c2 _ w4 (by have := L2.out; omega) (HA.out (Value.slice a2 n2 c2', ys) (by simp)) EY.out).mono ?_
  rintro e w5 ⟨rfl, hB⟩
  have hBw := hBx.trans (hB.mono hBx.size)
  have HA' : Hid (Each w5 [(y2, ys), (x2, xs), (Value.slice a1 n1 c1, xs), (Value.slice a2 n2 c2', ys)]) := HA.out.below hB
  clear hB hBx HA 
  have HA := HA'
  have hBx := hBw
  clear HA' hBw
  go_wp2_with fail
  refine (union_any a xs ys c2 x2 y2 w5 (by have := L1.out; omega) (by have := L2.out; omega) (HA.out (x2, xs) (by simp)) (HA.out (y2, ys) (by simp)) E2.out (HE.out.below hBx).three).mono ?_
  rintro e w6 ⟨p, up, P, rfl, htp, hnew, h0p, h1p, hB⟩
  obtain rfl := h1p H0.out
  obtain ⟨ap, kp, rfl⟩ := hnew.form
  clear h0p h1p hnew
  have hBw := hBx.trans (hB.mono hBx.size)
  have HA' : Hid (Each w6 [(y2, ys), (x2, xs), (Value.slice a1 n1 c1, xs), (Value.slice a2 n2 c2', ys)]) := HA.out.below hB
  clear hB hBx HA 
  have HA := HA'
  have hBx := hBw
  clear HA' hBw
  have TP : Hid (Told a up c2) := htp
  clear htp
  go_wp2_with fail
  refine (less_any a xs ys c2 x2 y2 w6 (by have := L1.out; omega) (by have := L2.out; omega) (HA.out (x2, xs) (by simp)) (HA.out (y2, ys) (by simp)) E2.out (HE.out.below hBx).three).mono ?_
  rintro e w7 ⟨q, uq, Q, rfl, htq, hnew, h0q, h1q, hB⟩
  obtain rfl := h1q H0.out
  obtain ⟨aq, kq, rfl⟩ := hnew.form
  clear h0q h1q hnew
  have hBw := hBx.trans (hB.mono hBx.size)
  have HA' : Hid (Each w7 [(y2, ys), (x2, xs), (Value.slice a1 n1 c1, xs), (Value.slice a2 n2 c2', ys)]) := HA.out.below hB
  clear hB hBx HA 
  have HA := HA'
  have hBx := hBw
  clear HA' hBw
  have TQ : Hid (Told a uq c2) := htq
  clear htq
  go_wp2_with fail
  refine (both_any a xs ys c2 x2 y2 w7 (by have := L1.out; omega) (by have := L2.out; omega) (HA.out (x2, xs) (by simp)) (HA.out (y2, ys) (by simp)) E2.out (HE.out.below hBx).three).mono ?_
  rintro e w8 ⟨r, ur, R, rfl, htr, hnew, h0r, h1r, hB⟩
  obtain rfl := h1r H0.out
  obtain ⟨ar, kr, rfl⟩ := hnew.form
  clear h0r h1r hnew
  have hBw := hBx.trans (hB.mono hBx.size)
  have HA' : Hid (Each w8 [(y2, ys), (x2, xs), (Value.slice a1 n1 c1, xs), (Value.slice a2 n2 c2', ys)]) := HA.out.below hB
  clear hB hBx HA 
  have HA := HA'
  have hBx := hBw
  clear HA' hBw
  have TR : Hid (Told a ur c2) := htr
  clear htr
  go_wp2_with fail
  refine (check_any a xs 0 x2 w8 (by have := L1.out; omega) (HA.out (x2, xs) (by simp)) EX.out (HE.out.below hBx).three).mono ?_
  rintro e w9 ⟨u0, rfl, ht0, hB⟩
  have hBw := hBx.trans (hB.mono hBx.size)
  have HA' : Hid (Each w9 [(y2, ys), (x2, xs), (Value.slice a1 n1 c1, xs), (Value.slice a2 n2 c2', ys)]) := HA.out.below hB
  clear hB hBx HA 
  have HA := HA'
  have hBx := hBw
  clear HA' hBw
  have T0 : Hid (Told a u0 0) := ht0
  clear ht0
  go_wp2_with fail
  refine (coded_told a u0 0 w9 (HE.out.below hBx) T0.out).mono ?_
  rintro e w10 ⟨rfl, hB⟩
  have hBw := hBx.trans (hB.mono hBx.size)
  have HA' : Hid (Each w10 [(y2, ys), (x2, xs), (Value.slice a1 n1 c1, xs), (Value.slice a2 n2 c2', ys)]) := HA.out.below hB
  clear hB hBx HA 
  have HA := HA'
  have hBx := hBw
  clear HA' hBw
  go_wp2_with fail
  refine (coded_told a up c2 w10 (HE.out.below hBx) TP.out).mono ?_
  rintro e w11 ⟨rfl, hB⟩
  have hBw := hBx.trans (hB.mono hBx.size)
  have HA' : Hid (Each w11 [(y2, ys), (x2, xs), (Value.slice a1 n1 c1, xs), (Value.slice a2 n2 c2', ys)]) := HA.out.below hB
  clear hB hBx HA 
  have HA := HA'
  have hBx := hBw
  clear HA' hBw
  go_wp2_with fail
  refine (coded_told a uq c2 w11 (HE.out.below hBx) TQ.out).mono ?_
  rintro e w12 ⟨rfl, hB⟩
  have hBw := hBx.trans (hB.mono hBx.size)
  have HA' : Hid (Each w12 [(y2, ys), (x2, xs), (Value.slice a1 n1 c1, xs), (Value.slice a2 n2 c2', ys)]) := HA.out.below hB
  clear hB hBx HA 
  have HA := HA'
  have hBx := hBw
  clear HA' hBw
  go_wp2_with fail
  refine (coded_told a ur c2 w12 (HE.out.below hBx) TR.out).mono ?_
  rintro e w13 ⟨rfl, hB⟩
  have hBw := hBx.trans (hB.mono hBx.size)
  have HA' : Hid (Each w13 [(y2, ys), (x2, xs), (Value.slice a1 n1 c1, xs), (Value.slice a2 n2 c2', ys)]) := HA.out.below hB
  clear hB hBx HA 
  have HA := HA'
  have hBx := hBw
  clear HA' hBw
  obtain ⟨hb, hhb⟩ : ∃ hb, hb = xs.contains x := ⟨_, rfl⟩
  have HHB : Hid (hb = xs.contains x) := hhb
  clear hhb
  go_wp2_with fail
  have H1 := has_any xs x2 x w13 (by have := L1.out; omega) (HA.out (x2, xs) (by simp))
  rw [← HHB.out] at H1
  refine H1.mono ?_
  clear H1
  rintro e wz ⟨rfl, hw⟩
  obtain rfl := hw.symm
  go_wp2_with fail
  have H1 := refHas_any xs (Value.slice a1 n1 c1) x w13 (by have := L1.out; omega) (HA.out (Value.slice a1 n1 c1, xs) (by simp))
  rw [← HHB.out] at H1
  refine H1.mono ?_
  clear H1 HHB
  rintro e wz ⟨rfl, hw⟩
  obtain rfl := hw.symm
  go_wp2_with fail
  go_loopw [20, 21, 22] (fun l m t wr => ∃ k : Nat, k ≤ n1 ∧ t = .int .i64 k ∧ wr.ownsRow w13.heap.size 3 1 l ((xs.take k).filter fun y => !ys.contains y).length (((xs.take k).filter fun y => !ys.contains y).map (Value.int .i64)) ∧ wr.ownsRow w13.heap.size 3 1 m ((xs.take k).filter fun y => ys.contains y).length (((xs.take k).filter fun y => ys.contains y).map (Value.int .i64)) ∧ Apart l m ∧ Below w13.heap.size w13 wr) (fun _ _ t _ => (n1 - intOf t).toNat)
  case atStart => exact ⟨0, Nat.zero_le _, rfl, World.ownsRow_nil _ _ _ _, World.ownsRow_nil _ _ _ _, Or.inl rfl, Below.refl _ _⟩
  case round =>
    obtain ⟨k, hk, rfl, hol, hom, hap, hB⟩ := hrel
    have HO : Hid (wr.ownsRow w13.heap.size 3 1 u20 ((xs.take k).filter fun y => !ys.contains y).length (((xs.take k).filter fun y => !ys.contains y).map (Value.int .i64)) ∧ wr.ownsRow w13.heap.size 3 1 u21 ((xs.take k).filter fun y => ys.contains y).length (((xs.take k).filter fun y => ys.contains y).map (Value.int .i64)) ∧ Apart u20 u21) := ⟨hol, hom, hap⟩
    have hsz : w13.heap.size ≤ wr.heap.size := hB.size
    clear hol hom hap
    by_cases hlt : k < n1
    · have hkz : k < xs.length := by rw [← HN.out.1]; exact hlt
      rcases (show IsInts w13 (Value.slice a1 n1 c1) xs from (HA.out (Value.slice a1 n1 c1, xs) (by simp))) with ⟨hzn, _⟩ | ⟨hzn, bb, o, cc, hv, hc⟩
      · exfalso; rw [hzn] at hkz; exact absurd hkz (Nat.not_lt_zero _)
      obtain rfl : a1 = some ⟨bb, o, none⟩ := by simpa using (Value.slice.inj hv).1
      have e1 := cell_keep hB (hc k hkz)
      have hll : ((xs.take k).filter fun y => !ys.contains y).length ≤ 60 := Nat.le_trans (List.length_filter_le _ _) (Nat.le_trans (List.length_take_le _ _) (by omega))
      have hcl : ((xs.take k).filter fun y => ys.contains y).length ≤ 60 := Nat.le_trans (List.length_filter_le _ _) (Nat.le_trans (List.length_take_le _ _) (by omega))
      obtain ⟨z, hz⟩ : ∃ z, z = xs.getD k 0 := ⟨_, rfl⟩
      have hstep : ∀ b, ys.contains z = b → (b = true → ((xs.take (k + 1)).filter fun y => !ys.contains y) = ((xs.take k).filter fun y => !ys.contains y) ∧ ((xs.take (k + 1)).filter fun y => ys.contains y) = ((xs.take k).filter fun y => ys.contains y) ++ [z]) ∧ (b = false → ((xs.take (k + 1)).filter fun y => !ys.contains y) = ((xs.take k).filter fun y => !ys.contains y) ++ [z] ∧ ((xs.take (k + 1)).filter fun y => ys.contains y) = ((xs.take k).filter fun y => ys.contains y)) := by
        intro b hb
        refine ⟨fun g => ?_, fun g => ?_⟩
        · rw [hz]
          have hb2 : ys.contains (xs.getD k 0) = true := by rw [← hz, hb, g]
          exact ⟨filter_no _ xs k hkz (by rw [hb2]; rfl), filter_yes _ xs k hkz hb2⟩
        · rw [hz]
          have hb2 : ys.contains (xs.getD k 0) = false := by rw [← hz, hb, g]
          exact ⟨filter_yes _ xs k hkz (by rw [hb2]; rfl), filter_no _ xs k hkz hb2⟩
      rw [← hz] at e1
      have HIY : Hid (IsInts wr (Value.slice a2 n2 c2') ys ∧ ys.length ≤ 1000000) := ⟨(HA.out (Value.slice a2 n2 c2', ys) (by simp)).below hB, (by have := L2.out; omega)⟩
      clear hz hkz hzn hc hv
      cases hcb : ys.contains z with
      | true =>
        have HCB : Hid (ys.contains z = true) := hcb
        have hst := (hstep true hcb).1 rfl
        obtain ⟨v', w', hr, ho1, ho2, hap, hB2⟩ := two_append wr w13.heap.size u21 u20 ((xs.take k).filter fun y => ys.contains y) ((xs.take k).filter fun y => !ys.contains y) HO.out.2.1 HO.out.1 HO.out.2.2.symm hsz (by omega) z 22
        have HX : Hid (w'.ownsRow w13.heap.size 3 1 u20 ((xs.take (k + 1)).filter fun y => !ys.contains y).length (((xs.take (k + 1)).filter fun y => !ys.contains y).map (Value.int .i64)) ∧ w'.ownsRow w13.heap.size 3 1 v' ((xs.take (k + 1)).filter fun y => ys.contains y).length (((xs.take (k + 1)).filter fun y => ys.contains y).map (Value.int .i64)) ∧ Apart u20 v' ∧ Below w13.heap.size w13 w') := ⟨by rw [hst.1]; exact ho2, by rw [hst.2]; exact ho1, hap.symm, hB.trans hB2⟩
        clear hst hstep ho1 ho2 hap hB2 hll hcl HO hcb
        go_wp2_with fail
        have hH := refHas_any ys _ z wr HIY.out.2 HIY.out.1
        rw [HCB.out] at hH
        refine hH.mono ?_
        clear hH
        rintro e wz ⟨rfl, hw⟩
        obtain rfl := hw.symm
        go_wp2_with (at_builtin; refine Lib.wpList_append_run _ rfl _ _ _ _ rfl _ _ rfl rfl _ _ hr ?_)
        go_roundw
        case rel => exact ⟨k + 1, hlt, by go_num, HX.out.1, HX.out.2.1, HX.out.2.2.1, HX.out.2.2.2⟩
        case measure => simp [intOf]; omega
      | false =>
        have HCB : Hid (ys.contains z = false) := hcb
        have hst := (hstep false hcb).2 rfl
        obtain ⟨v', w', hr, ho1, ho2, hap, hB2⟩ := two_append wr w13.heap.size u20 u21 ((xs.take k).filter fun y => !ys.contains y) ((xs.take k).filter fun y => ys.contains y) HO.out.1 HO.out.2.1 HO.out.2.2 hsz (by omega) z 22
        have HX : Hid (w'.ownsRow w13.heap.size 3 1 v' ((xs.take (k + 1)).filter fun y => !ys.contains y).length (((xs.take (k + 1)).filter fun y => !ys.contains y).map (Value.int .i64)) ∧ w'.ownsRow w13.heap.size 3 1 u21 ((xs.take (k + 1)).filter fun y => ys.contains y).length (((xs.take (k + 1)).filter fun y => ys.contains y).map (Value.int .i64)) ∧ Apart v' u21 ∧ Below w13.heap.size w13 w') := ⟨by rw [hst.1]; exact ho1, by rw [hst.2]; exact ho2, hap, hB.trans hB2⟩
        clear hst hstep ho1 ho2 hap hB2 hll hcl HO hcb
        go_wp2_with fail
        have hH := refHas_any ys _ z wr HIY.out.2 HIY.out.1
        rw [HCB.out] at hH
        refine hH.mono ?_
        clear hH
        rintro e wz ⟨rfl, hw⟩
        obtain rfl := hw.symm
        go_wp2_with (at_builtin; refine Lib.wpList_append_run _ rfl _ _ _ _ rfl _ _ rfl rfl _ _ hr ?_)
        go_roundw
        case rel => exact ⟨k + 1, hlt, by go_num, HX.out.1, HX.out.2.1, HX.out.2.2.1, HX.out.2.2.2⟩
        case measure => simp [intOf]; omega
    · have hkn : k = xs.length := by rw [← HN.out.1]; omega
      have hl := isInts_of_owns HO.out.1
      have hm := isInts_of_owns HO.out.2.1
      rw [hkn, List.take_length] at hl hm
      clear HO hkn
      obtain ⟨la, lc, rfl⟩ := hl.form
      obtain ⟨nl, hnl⟩ : ∃ nl, nl = (xs.filter fun y => !ys.contains y).length := ⟨_, rfl⟩
      rw [← hnl] at hl ⊢
      have hwl := all_less xs ys nl hnl
      have hnl60 : nl ≤ 60 := by rw [hnl]; exact Nat.le_trans (List.length_filter_le _ _) L1.out
      clear hnl
      have hBw := hBx.trans (hB.mono hBx.size)
      have HA' : Hid (Each wr [(u21, (xs.filter fun y => ys.contains y)), (Value.slice la nl lc, (xs.filter fun y => !ys.contains y)), (y2, ys), (x2, xs), (Value.slice a1 n1 c1, xs), (Value.slice a2 n2 c2', ys)]) := Each.cons hm (Each.cons hl (HA.out.below hB))
      clear hB hBx HA hm hl
      have HA := HA'
      have hBx := hBw
      clear HA' hBw
      obtain ⟨wb, hwb⟩ : ∃ wb, wb = ((nl : Int) == 0) := ⟨_, rfl⟩
      have HWL : Hid ((xs.all fun x => ys.contains x) = wb) := by
        show _ = wb
        rw [hwl, hwb]
      have hwb2 : ((nl : Int) == 0) = wb := hwb.symm
      clear hwl hwb
      go_wp2_with fail
      have H1 := within_any xs ys x2 y2 wr (by have := L1.out; omega) (by have := L2.out; omega) (HA.out (x2, xs) (by simp)) (HA.out (y2, ys) (by simp))
      rw [HWL.out] at H1
      refine (H1).mono ?_
      rintro e w15 ⟨rfl, hB⟩
      have hBw := hBx.trans (hB.mono hBx.size)
      have HA' : Hid (Each w15 [(u21, (xs.filter fun y => ys.contains y)), (Value.slice la nl lc, (xs.filter fun y => !ys.contains y)), (y2, ys), (x2, xs), (Value.slice a1 n1 c1, xs), (Value.slice a2 n2 c2', ys)]) := HA.out.below hB
      clear hB hBx HA 
      have HA := HA'
      have hBx := hBw
      clear HA' hBw
      clear H1
      obtain ⟨st, hst⟩ : ∃ st : ByteArray, st = ⟨(setText xs).toArray⟩ := ⟨_, rfl⟩
      have HST : Hid (st = ⟨(setText xs).toArray⟩) := hst
      clear hst
      go_wp2_with fail
      have H1 := refText xs (Value.slice a1 n1 c1) w15 (by have := L1.out; omega) (HA.out (Value.slice a1 n1 c1, xs) (by simp)) SX.out.1
      rw [← HST.out] at H1
      refine (H1).mono ?_
      rintro e w16 ⟨rfl, hB⟩
      have hBw := hBx.trans (hB.mono hBx.size)
      have HA' : Hid (Each w16 [(u21, (xs.filter fun y => ys.contains y)), (Value.slice la nl lc, (xs.filter fun y => !ys.contains y)), (y2, ys), (x2, xs), (Value.slice a1 n1 c1, xs), (Value.slice a2 n2 c2', ys)]) := HA.out.below hB
      clear hB hBx HA 
      have HA := HA'
      have hBx := hBw
      clear HA' hBw
      clear H1
      go_wp2_with fail
      refine (read_any a s zs c3 w16 (by omega) (HE.out.below hBx).three (HM.out.below hBx) HRD.out).mono ?_
      rintro e w17 ⟨z1, u3, rfl, ht3, hnew, hB⟩
      have hBw := hBx.trans (hB.mono hBx.size)
      have HA' : Hid (Each w17 [(z1, zs), (u21, (xs.filter fun y => ys.contains y)), (Value.slice la nl lc, (xs.filter fun y => !ys.contains y)), (y2, ys), (x2, xs), (Value.slice a1 n1 c1, xs), (Value.slice a2 n2 c2', ys)]) := Each.cons hnew (HA.out.below hB)
      clear hB hBx HA hnew
      have HA := HA'
      have hBx := hBw
      clear HA' hBw
      have T3 : Hid (Told a u3 c3) := ht3
      clear ht3
      go_wp2_with fail
      refine (refRead_any s zs c3 w17 (by omega) HRD.out).mono ?_
      rintro e w18 ⟨z2, rfl, hnew, hB⟩
      have hBw := hBx.trans (hB.mono hBx.size)
      have HA' : Hid (Each w18 [(z2, zs), (z1, zs), (u21, (xs.filter fun y => ys.contains y)), (Value.slice la nl lc, (xs.filter fun y => !ys.contains y)), (y2, ys), (x2, xs), (Value.slice a1 n1 c1, xs), (Value.slice a2 n2 c2', ys)]) := Each.cons hnew (HA.out.below hB)
      clear hB hBx HA hnew
      have HA := HA'
      have hBx := hBw
      clear HA' hBw
      go_wp2_with fail
      have H1 := text_ok xs x2 w18 (by have := L1.out; omega) (HA.out (x2, xs) (by simp)) SX.out (pow_below HT.out (pow_lt HT.out) hBx)
      rw [← HST.out] at H1
      refine (H1).mono ?_
      rintro e w19 ⟨rfl, hB⟩
      have hBw := hBx.trans (hB.mono hBx.size)
      have HA' : Hid (Each w19 [(z2, zs), (z1, zs), (u21, (xs.filter fun y => ys.contains y)), (Value.slice la nl lc, (xs.filter fun y => !ys.contains y)), (y2, ys), (x2, xs), (Value.slice a1 n1 c1, xs), (Value.slice a2 n2 c2', ys)]) := HA.out.below hB
      clear hB hBx HA 
      have HA := HA'
      have hBx := hBw
      clear HA' hBw
      clear H1
      go_wp2_with fail
      refine (coded_told a u3 c3 w19 (HE.out.below hBx) T3.out).mono ?_
      rintro e w20 ⟨rfl, hB⟩
      have hBw := hBx.trans (hB.mono hBx.size)
      have HA' : Hid (Each w20 [(z2, zs), (z1, zs), (u21, (xs.filter fun y => ys.contains y)), (Value.slice la nl lc, (xs.filter fun y => !ys.contains y)), (y2, ys), (x2, xs), (Value.slice a1 n1 c1, xs), (Value.slice a2 n2 c2', ys)]) := HA.out.below hB
      clear hB hBx HA 
      have HA := HA'
      have hBx := hBw
      clear HA' hBw
      go_wp2_with fail
      refine (sameInts_true zs z1 z2 w20 (rd_len HRD.out (by omega)) (HA.out (z1, zs) (by simp)) (HA.out (z2, zs) (by simp))).mono ?_
      rintro e w21 ⟨rfl, hB⟩
      have hBw := hBx.trans (hB.mono hBx.size)
      have HA' : Hid (Each w21 [(z2, zs), (z1, zs), (u21, (xs.filter fun y => ys.contains y)), (Value.slice la nl lc, (xs.filter fun y => !ys.contains y)), (y2, ys), (x2, xs), (Value.slice a1 n1 c1, xs), (Value.slice a2 n2 c2', ys)]) := HA.out.below hB
      clear hB hBx HA 
      have HA := HA'
      have hBx := hBw
      clear HA' hBw
      go_wp2_with fail
      go_ret
      exact ⟨rfl, hBx⟩

set_option maxRecDepth 100000 in
set_option maxHeartbeats 16000000 in
theorem tells_first (a : Nat → Addr) (xs ys : List Int) (v1 v2 : Value) (x : Int) (s : ByteArray) (w : World) (ht : Pow w) (hE : Errs w a) (hml : MaxLen w) (i1 : IsInts w v1 xs) (i2 : IsInts w v2 ys)
    (l1 : xs.length ≤ 60) (l2 : ys.length ≤ 60) (hs : s.size ≤ 300) (c : Int) (hx : Ec xs c) (hc : 0 < c) :
    Calls Tryz.prog 3 #[v1, v2, .int .i64 x, .string s] w fun e w' => e = .returned (.bool true) ∧ Below w.heap.size w w' := by
  have HK : Hid (Calls Tryz.prog 4 #[] w fun e w' => e = .returned (.bool true) ∧ Below w.heap.size w w') := united_any w ht
  have HT : Hid (Pow w) := ht
  have HE : Hid (Errs w a) := hE
  have HM : Hid (MaxLen w) := hml
  have L1 : Hid (xs.length ≤ 60) := l1
  have L2 : Hid (ys.length ≤ 60) := l2
  obtain ⟨zs, c3, hrd⟩ := rd_any s
  have HRD : Hid (Rd s zs c3) := hrd
  have EX : Hid (Ec xs c) := hx
  have h0 : c ≠ 0 := by omega
  have hce : (c == 0) = false := beq_eq_false_iff_ne.2 h0
  have E2 : Hid (Ec2 xs ys c) := Or.inl ⟨hx, h0⟩
  have H0 : Hid (c ≠ 0) := h0
  obtain ⟨a1, c1, rfl⟩ := i1.form
  obtain ⟨a2, c2', rfl⟩ := i2.form
  have HA : Hid (Each w [(.slice a1 xs.length c1, xs), (.slice a2 ys.length c2', ys)]) := Each.cons i1 (Each.cons i2 (Each.nil _))
  obtain ⟨n1, hn1⟩ : ∃ n, n = xs.length := ⟨_, rfl⟩
  obtain ⟨n2, hn2⟩ : ∃ n, n = ys.length := ⟨_, rfl⟩
  rw [← hn1] at l1 HA ⊢
  rw [← hn2] at l2 HA ⊢
  have HN : Hid (n1 = xs.length ∧ n2 = ys.length) := ⟨hn1, hn2⟩
  have hBx : Below w.heap.size w w := Below.refl _ _
  clear ht hE hml i1 i2 hn1 hn2 hrd hx h0
  go_enter Tryz.func3, Tryz.ntmps3
  go_wp2_with fail
  refine (HK.out).mono ?_
  rintro e w1 ⟨rfl, hB⟩
  have hBw := hBx.trans (hB.mono hBx.size)
  have HA' : Hid (Each w1 [(Value.slice a1 n1 c1, xs), (Value.slice a2 n2 c2', ys)]) := HA.out.below hB
  clear hB hBx HA 
  have HA := HA'
  have hBx := hBw
  clear HA' hBw
  go_wp2_with fail
  refine (ownInts_any xs _ w1 (by have := L1.out; omega) (HA.out (Value.slice a1 n1 c1, xs) (by simp))).mono ?_
  rintro e w2 ⟨x2, rfl, hnew, hB⟩
  have hBw := hBx.trans (hB.mono hBx.size)
  have HA' : Hid (Each w2 [(x2, xs), (Value.slice a1 n1 c1, xs), (Value.slice a2 n2 c2', ys)]) := Each.cons hnew (HA.out.below hB)
  clear hB hBx HA hnew
  have HA := HA'
  have hBx := hBw
  clear HA' hBw
  go_wp2_with fail
  refine (ownInts_any ys _ w2 (by have := L2.out; omega) (HA.out (Value.slice a2 n2 c2', ys) (by simp))).mono ?_
  rintro e w3 ⟨y2, rfl, hnew, hB⟩
  have hBw := hBx.trans (hB.mono hBx.size)
  have HA' : Hid (Each w3 [(y2, ys), (x2, xs), (Value.slice a1 n1 c1, xs), (Value.slice a2 n2 c2', ys)]) := Each.cons hnew (HA.out.below hB)
  clear hB hBx HA hnew
  have HA := HA'
  have hBx := hBw
  clear HA' hBw
  go_wp2_with fail
  refine (refErr_any xs c _ w3 (by have := L1.out; omega) (HA.out (Value.slice a1 n1 c1, xs) (by simp)) EX.out).mono ?_
  rintro e w4 ⟨rfl, hB⟩
  have hBw := hBx.trans (hB.mono hBx.size)
  have HA' : Hid (Each w4 [(y2, ys), (x2, xs), (Value.slice a1 n1 c1, xs), (Value.slice a2 n2 c2', ys)]) := HA.out.below hB
  clear hB hBx HA 
  have HA := HA'
  have hBx := hBw
  clear HA' hBw
  go_wp2_with fail
  refine (union_any a xs ys c x2 y2 w4 (by have := L1.out; omega) (by have := L2.out; omega) (HA.out (x2, xs) (by simp)) (HA.out (y2, ys) (by simp)) E2.out (HE.out.below hBx).three).mono ?_
  rintro e w5 ⟨p, up, P, rfl, htp, hnew, h0p, h1p, hB⟩
  obtain rfl := h1p H0.out
  obtain ⟨ap, kp, rfl⟩ := hnew.form
  clear h0p h1p hnew
  have hBw := hBx.trans (hB.mono hBx.size)
  have HA' : Hid (Each w5 [(y2, ys), (x2, xs), (Value.slice a1 n1 c1, xs), (Value.slice a2 n2 c2', ys)]) := HA.out.below hB
  clear hB hBx HA 
  have HA := HA'
  have hBx := hBw
  clear HA' hBw
  have TP : Hid (Told a up c) := htp
  clear htp
  go_wp2_with fail
  refine (less_any a xs ys c x2 y2 w5 (by have := L1.out; omega) (by have := L2.out; omega) (HA.out (x2, xs) (by simp)) (HA.out (y2, ys) (by simp)) E2.out (HE.out.below hBx).three).mono ?_
  rintro e w6 ⟨q, uq, Q, rfl, htq, hnew, h0q, h1q, hB⟩
  obtain rfl := h1q H0.out
  obtain ⟨aq, kq, rfl⟩ := hnew.form
  clear h0q h1q hnew
  have hBw := hBx.trans (hB.mono hBx.size)
  have HA' : Hid (Each w6 [(y2, ys), (x2, xs), (Value.slice a1 n1 c1, xs), (Value.slice a2 n2 c2', ys)]) := HA.out.below hB
  clear hB hBx HA 
  have HA := HA'
  have hBx := hBw
  clear HA' hBw
  have TQ : Hid (Told a uq c) := htq
  clear htq
  go_wp2_with fail
  refine (both_any a xs ys c x2 y2 w6 (by have := L1.out; omega) (by have := L2.out; omega) (HA.out (x2, xs) (by simp)) (HA.out (y2, ys) (by simp)) E2.out (HE.out.below hBx).three).mono ?_
  rintro e w7 ⟨r, ur, R, rfl, htr, hnew, h0r, h1r, hB⟩
  obtain rfl := h1r H0.out
  obtain ⟨ar, kr, rfl⟩ := hnew.form
  clear h0r h1r hnew
  have hBw := hBx.trans (hB.mono hBx.size)
  have HA' : Hid (Each w7 [(y2, ys), (x2, xs), (Value.slice a1 n1 c1, xs), (Value.slice a2 n2 c2', ys)]) := HA.out.below hB
  clear hB hBx HA 
  have HA := HA'
  have hBx := hBw
  clear HA' hBw
  have TR : Hid (Told a ur c) := htr
  clear htr
  go_wp2_with fail
  refine (check_any a xs c x2 w7 (by have := L1.out; omega) (HA.out (x2, xs) (by simp)) EX.out (HE.out.below hBx).three).mono ?_
  rintro e w8 ⟨u0, rfl, ht0, hB⟩
  have hBw := hBx.trans (hB.mono hBx.size)
  have HA' : Hid (Each w8 [(y2, ys), (x2, xs), (Value.slice a1 n1 c1, xs), (Value.slice a2 n2 c2', ys)]) := HA.out.below hB
  clear hB hBx HA 
  have HA := HA'
  have hBx := hBw
  clear HA' hBw
  have T0 : Hid (Told a u0 c) := ht0
  clear ht0
  go_wp2_with fail
  refine (coded_told a u0 c w8 (HE.out.below hBx) T0.out).mono ?_
  rintro e w9 ⟨rfl, hB⟩
  have hBw := hBx.trans (hB.mono hBx.size)
  have HA' : Hid (Each w9 [(y2, ys), (x2, xs), (Value.slice a1 n1 c1, xs), (Value.slice a2 n2 c2', ys)]) := HA.out.below hB
  clear hB hBx HA 
  have HA := HA'
  have hBx := hBw
  clear HA' hBw
  go_wp2_with fail
  refine (coded_told a up c w9 (HE.out.below hBx) TP.out).mono ?_
  rintro e w10 ⟨rfl, hB⟩
  have hBw := hBx.trans (hB.mono hBx.size)
  have HA' : Hid (Each w10 [(y2, ys), (x2, xs), (Value.slice a1 n1 c1, xs), (Value.slice a2 n2 c2', ys)]) := HA.out.below hB
  clear hB hBx HA 
  have HA := HA'
  have hBx := hBw
  clear HA' hBw
  go_wp2_with fail
  refine (coded_told a uq c w10 (HE.out.below hBx) TQ.out).mono ?_
  rintro e w11 ⟨rfl, hB⟩
  have hBw := hBx.trans (hB.mono hBx.size)
  have HA' : Hid (Each w11 [(y2, ys), (x2, xs), (Value.slice a1 n1 c1, xs), (Value.slice a2 n2 c2', ys)]) := HA.out.below hB
  clear hB hBx HA 
  have HA := HA'
  have hBx := hBw
  clear HA' hBw
  go_wp2_with fail
  refine (coded_told a ur c w11 (HE.out.below hBx) TR.out).mono ?_
  rintro e w12 ⟨rfl, hB⟩
  have hBw := hBx.trans (hB.mono hBx.size)
  have HA' : Hid (Each w12 [(y2, ys), (x2, xs), (Value.slice a1 n1 c1, xs), (Value.slice a2 n2 c2', ys)]) := HA.out.below hB
  clear hB hBx HA 
  have HA := HA'
  have hBx := hBw
  clear HA' hBw
  obtain ⟨hb, hhb⟩ : ∃ hb, hb = xs.contains x := ⟨_, rfl⟩
  have HHB : Hid (hb = xs.contains x) := hhb
  clear hhb
  go_wp2_with fail
  have H1 := has_any xs x2 x w12 (by have := L1.out; omega) (HA.out (x2, xs) (by simp))
  rw [← HHB.out] at H1
  refine H1.mono ?_
  clear H1
  rintro e wz ⟨rfl, hw⟩
  obtain rfl := hw.symm
  go_wp2_with fail
  have H1 := refHas_any xs (Value.slice a1 n1 c1) x w12 (by have := L1.out; omega) (HA.out (Value.slice a1 n1 c1, xs) (by simp))
  rw [← HHB.out] at H1
  refine H1.mono ?_
  clear H1 HHB
  rintro e wz ⟨rfl, hw⟩
  obtain rfl := hw.symm
  go_wp2_with fail
  go_loopw [20, 21, 22] (fun l m t wr => ∃ k : Nat, k ≤ n1 ∧ t = .int .i64 k ∧ wr.ownsRow w12.heap.size 3 1 l ((xs.take k).filter fun y => !ys.contains y).length (((xs.take k).filter fun y => !ys.contains y).map (Value.int .i64)) ∧ wr.ownsRow w12.heap.size 3 1 m ((xs.take k).filter fun y => ys.contains y).length (((xs.take k).filter fun y => ys.contains y).map (Value.int .i64)) ∧ Apart l m ∧ Below w12.heap.size w12 wr) (fun _ _ t _ => (n1 - intOf t).toNat)
  case atStart => exact ⟨0, Nat.zero_le _, rfl, World.ownsRow_nil _ _ _ _, World.ownsRow_nil _ _ _ _, Or.inl rfl, Below.refl _ _⟩
  case round =>
    obtain ⟨k, hk, rfl, hol, hom, hap, hB⟩ := hrel
    have HO : Hid (wr.ownsRow w12.heap.size 3 1 u20 ((xs.take k).filter fun y => !ys.contains y).length (((xs.take k).filter fun y => !ys.contains y).map (Value.int .i64)) ∧ wr.ownsRow w12.heap.size 3 1 u21 ((xs.take k).filter fun y => ys.contains y).length (((xs.take k).filter fun y => ys.contains y).map (Value.int .i64)) ∧ Apart u20 u21) := ⟨hol, hom, hap⟩
    have hsz : w12.heap.size ≤ wr.heap.size := hB.size
    clear hol hom hap
    by_cases hlt : k < n1
    · have hkz : k < xs.length := by rw [← HN.out.1]; exact hlt
      rcases (show IsInts w12 (Value.slice a1 n1 c1) xs from (HA.out (Value.slice a1 n1 c1, xs) (by simp))) with ⟨hzn, _⟩ | ⟨hzn, bb, o, cc, hv, hc⟩
      · exfalso; rw [hzn] at hkz; exact absurd hkz (Nat.not_lt_zero _)
      obtain rfl : a1 = some ⟨bb, o, none⟩ := by simpa using (Value.slice.inj hv).1
      have e1 := cell_keep hB (hc k hkz)
      have hll : ((xs.take k).filter fun y => !ys.contains y).length ≤ 60 := Nat.le_trans (List.length_filter_le _ _) (Nat.le_trans (List.length_take_le _ _) (by omega))
      have hcl : ((xs.take k).filter fun y => ys.contains y).length ≤ 60 := Nat.le_trans (List.length_filter_le _ _) (Nat.le_trans (List.length_take_le _ _) (by omega))
      obtain ⟨z, hz⟩ : ∃ z, z = xs.getD k 0 := ⟨_, rfl⟩
      have hstep : ∀ b, ys.contains z = b → (b = true → ((xs.take (k + 1)).filter fun y => !ys.contains y) = ((xs.take k).filter fun y => !ys.contains y) ∧ ((xs.take (k + 1)).filter fun y => ys.contains y) = ((xs.take k).filter fun y => ys.contains y) ++ [z]) ∧ (b = false → ((xs.take (k + 1)).filter fun y => !ys.contains y) = ((xs.take k).filter fun y => !ys.contains y) ++ [z] ∧ ((xs.take (k + 1)).filter fun y => ys.contains y) = ((xs.take k).filter fun y => ys.contains y)) := by
        intro b hb
        refine ⟨fun g => ?_, fun g => ?_⟩
        · rw [hz]
          have hb2 : ys.contains (xs.getD k 0) = true := by rw [← hz, hb, g]
          exact ⟨filter_no _ xs k hkz (by rw [hb2]; rfl), filter_yes _ xs k hkz hb2⟩
        · rw [hz]
          have hb2 : ys.contains (xs.getD k 0) = false := by rw [← hz, hb, g]
          exact ⟨filter_yes _ xs k hkz (by rw [hb2]; rfl), filter_no _ xs k hkz hb2⟩
      rw [← hz] at e1
      have HIY : Hid (IsInts wr (Value.slice a2 n2 c2') ys ∧ ys.length ≤ 1000000) := ⟨(HA.out (Value.slice a2 n2 c2', ys) (by simp)).below hB, (by have := L2.out; omega)⟩
      clear hz hkz hzn hc hv
      cases hcb : ys.contains z with
      | true =>
        have HCB : Hid (ys.contains z = true) := hcb
        have hst := (hstep true hcb).1 rfl
        obtain ⟨v', w', hr, ho1, ho2, hap, hB2⟩ := two_append wr w12.heap.size u21 u20 ((xs.take k).filter fun y => ys.contains y) ((xs.take k).filter fun y => !ys.contains y) HO.out.2.1 HO.out.1 HO.out.2.2.symm hsz (by omega) z 22
        have HX : Hid (w'.ownsRow w12.heap.size 3 1 u20 ((xs.take (k + 1)).filter fun y => !ys.contains y).length (((xs.take (k + 1)).filter fun y => !ys.contains y).map (Value.int .i64)) ∧ w'.ownsRow w12.heap.size 3 1 v' ((xs.take (k + 1)).filter fun y => ys.contains y).length (((xs.take (k + 1)).filter fun y => ys.contains y).map (Value.int .i64)) ∧ Apart u20 v' ∧ Below w12.heap.size w12 w') := ⟨by rw [hst.1]; exact ho2, by rw [hst.2]; exact ho1, hap.symm, hB.trans hB2⟩
        clear hst hstep ho1 ho2 hap hB2 hll hcl HO hcb
        go_wp2_with fail
        have hH := refHas_any ys _ z wr HIY.out.2 HIY.out.1
        rw [HCB.out] at hH
        refine hH.mono ?_
        clear hH
        rintro e wz ⟨rfl, hw⟩
        obtain rfl := hw.symm
        go_wp2_with (at_builtin; refine Lib.wpList_append_run _ rfl _ _ _ _ rfl _ _ rfl rfl _ _ hr ?_)
        go_roundw
        case rel => exact ⟨k + 1, hlt, by go_num, HX.out.1, HX.out.2.1, HX.out.2.2.1, HX.out.2.2.2⟩
        case measure => simp [intOf]; omega
      | false =>
        have HCB : Hid (ys.contains z = false) := hcb
        have hst := (hstep false hcb).2 rfl
        obtain ⟨v', w', hr, ho1, ho2, hap, hB2⟩ := two_append wr w12.heap.size u20 u21 ((xs.take k).filter fun y => !ys.contains y) ((xs.take k).filter fun y => ys.contains y) HO.out.1 HO.out.2.1 HO.out.2.2 hsz (by omega) z 22
        have HX : Hid (w'.ownsRow w12.heap.size 3 1 v' ((xs.take (k + 1)).filter fun y => !ys.contains y).length (((xs.take (k + 1)).filter fun y => !ys.contains y).map (Value.int .i64)) ∧ w'.ownsRow w12.heap.size 3 1 u21 ((xs.take (k + 1)).filter fun y => ys.contains y).length (((xs.take (k + 1)).filter fun y => ys.contains y).map (Value.int .i64)) ∧ Apart v' u21 ∧ Below w12.heap.size w12 w') := ⟨by rw [hst.1]; exact ho1, by rw [hst.2]; exact ho2, hap, hB.trans hB2⟩
        clear hst hstep ho1 ho2 hap hB2 hll hcl HO hcb
        go_wp2_with fail
        have hH := refHas_any ys _ z wr HIY.out.2 HIY.out.1
        rw [HCB.out] at hH
        refine hH.mono ?_
        clear hH
        rintro e wz ⟨rfl, hw⟩
        obtain rfl := hw.symm
        go_wp2_with (at_builtin; refine Lib.wpList_append_run _ rfl _ _ _ _ rfl _ _ rfl rfl _ _ hr ?_)
        go_roundw
        case rel => exact ⟨k + 1, hlt, by go_num, HX.out.1, HX.out.2.1, HX.out.2.2.1, HX.out.2.2.2⟩
        case measure => simp [intOf]; omega
    · have hkn : k = xs.length := by rw [← HN.out.1]; omega
      have hl := isInts_of_owns HO.out.1
      have hm := isInts_of_owns HO.out.2.1
      rw [hkn, List.take_length] at hl hm
      clear HO hkn
      obtain ⟨la, lc, rfl⟩ := hl.form
      obtain ⟨nl, hnl⟩ : ∃ nl, nl = (xs.filter fun y => !ys.contains y).length := ⟨_, rfl⟩
      rw [← hnl] at hl ⊢
      have hwl := all_less xs ys nl hnl
      have hnl60 : nl ≤ 60 := by rw [hnl]; exact Nat.le_trans (List.length_filter_le _ _) L1.out
      clear hnl
      have hBw := hBx.trans (hB.mono hBx.size)
      have HA' : Hid (Each wr [(u21, (xs.filter fun y => ys.contains y)), (Value.slice la nl lc, (xs.filter fun y => !ys.contains y)), (y2, ys), (x2, xs), (Value.slice a1 n1 c1, xs), (Value.slice a2 n2 c2', ys)]) := Each.cons hm (Each.cons hl (HA.out.below hB))
      clear hB hBx HA hm hl
      have HA := HA'
      have hBx := hBw
      clear HA' hBw
      obtain ⟨wb, hwb⟩ : ∃ wb, wb = ((nl : Int) == 0) := ⟨_, rfl⟩
      have HWL : Hid ((xs.all fun x => ys.contains x) = wb) := by
        show _ = wb
        rw [hwl, hwb]
      have hwb2 : ((nl : Int) == 0) = wb := hwb.symm
      clear hwl hwb
      go_wp2_with fail
      have H1 := within_any xs ys x2 y2 wr (by have := L1.out; omega) (by have := L2.out; omega) (HA.out (x2, xs) (by simp)) (HA.out (y2, ys) (by simp))
      rw [HWL.out] at H1
      refine (H1).mono ?_
      rintro e w14 ⟨rfl, hB⟩
      have hBw := hBx.trans (hB.mono hBx.size)
      have HA' : Hid (Each w14 [(u21, (xs.filter fun y => ys.contains y)), (Value.slice la nl lc, (xs.filter fun y => !ys.contains y)), (y2, ys), (x2, xs), (Value.slice a1 n1 c1, xs), (Value.slice a2 n2 c2', ys)]) := HA.out.below hB
      clear hB hBx HA 
      have HA := HA'
      have hBx := hBw
      clear HA' hBw
      clear H1
      go_wp2_with fail
      refine (read_any a s zs c3 w14 (by omega) (HE.out.below hBx).three (HM.out.below hBx) HRD.out).mono ?_
      rintro e w15 ⟨z1, u3, rfl, ht3, hnew, hB⟩
      have hBw := hBx.trans (hB.mono hBx.size)
      have HA' : Hid (Each w15 [(z1, zs), (u21, (xs.filter fun y => ys.contains y)), (Value.slice la nl lc, (xs.filter fun y => !ys.contains y)), (y2, ys), (x2, xs), (Value.slice a1 n1 c1, xs), (Value.slice a2 n2 c2', ys)]) := Each.cons hnew (HA.out.below hB)
      clear hB hBx HA hnew
      have HA := HA'
      have hBx := hBw
      clear HA' hBw
      have T3 : Hid (Told a u3 c3) := ht3
      clear ht3
      go_wp2_with fail
      refine (refRead_any s zs c3 w15 (by omega) HRD.out).mono ?_
      rintro e w16 ⟨z2, rfl, hnew, hB⟩
      have hBw := hBx.trans (hB.mono hBx.size)
      have HA' : Hid (Each w16 [(z2, zs), (z1, zs), (u21, (xs.filter fun y => ys.contains y)), (Value.slice la nl lc, (xs.filter fun y => !ys.contains y)), (y2, ys), (x2, xs), (Value.slice a1 n1 c1, xs), (Value.slice a2 n2 c2', ys)]) := Each.cons hnew (HA.out.below hB)
      clear hB hBx HA hnew
      have HA := HA'
      have hBx := hBw
      clear HA' hBw
      go_wp2_with fail
      refine (text_not a xs c x2 w16 (by have := L1.out; omega) (HA.out (x2, xs) (by simp)) EX.out H0.out (HE.out.below hBx).three).mono ?_
      rintro e w17 ⟨rfl, hB⟩
      have hBw := hBx.trans (hB.mono hBx.size)
      have HA' : Hid (Each w17 [(z2, zs), (z1, zs), (u21, (xs.filter fun y => ys.contains y)), (Value.slice la nl lc, (xs.filter fun y => !ys.contains y)), (y2, ys), (x2, xs), (Value.slice a1 n1 c1, xs), (Value.slice a2 n2 c2', ys)]) := HA.out.below hB
      clear hB hBx HA 
      have HA := HA'
      have hBx := hBw
      clear HA' hBw
      go_wp2_with fail
      refine (coded_told a u3 c3 w17 (HE.out.below hBx) T3.out).mono ?_
      rintro e w18 ⟨rfl, hB⟩
      have hBw := hBx.trans (hB.mono hBx.size)
      have HA' : Hid (Each w18 [(z2, zs), (z1, zs), (u21, (xs.filter fun y => ys.contains y)), (Value.slice la nl lc, (xs.filter fun y => !ys.contains y)), (y2, ys), (x2, xs), (Value.slice a1 n1 c1, xs), (Value.slice a2 n2 c2', ys)]) := HA.out.below hB
      clear hB hBx HA 
      have HA := HA'
      have hBx := hBw
      clear HA' hBw
      go_wp2_with fail
      refine (sameInts_true zs z1 z2 w18 (rd_len HRD.out (by omega)) (HA.out (z1, zs) (by simp)) (HA.out (z2, zs) (by simp))).mono ?_
      rintro e w19 ⟨rfl, hB⟩
      have hBw := hBx.trans (hB.mono hBx.size)
      have HA' : Hid (Each w19 [(z2, zs), (z1, zs), (u21, (xs.filter fun y => ys.contains y)), (Value.slice la nl lc, (xs.filter fun y => !ys.contains y)), (y2, ys), (x2, xs), (Value.slice a1 n1 c1, xs), (Value.slice a2 n2 c2', ys)]) := HA.out.below hB
      clear hB hBx HA 
      have HA := HA'
      have hBx := hBw
      clear HA' hBw
      go_wp2_with fail
      go_ret
      exact ⟨rfl, hBx⟩

theorem tells_any (a : Nat → Addr) (xs ys : List Int) (v1 v2 : Value) (x : Int) (s : ByteArray) (w : World) (ht : Pow w) (hE : Errs w a) (hml : MaxLen w) (i1 : IsInts w v1 xs) (i2 : IsInts w v2 ys) :
    Calls Tryz.prog 3 #[v1, v2, .int .i64 x, .string s] w fun e w' => e = .returned (.bool true) ∧ Below w.heap.size w w' := by
  by_cases hl : 60 < xs.length ∨ 60 < ys.length ∨ 300 < s.size
  · obtain ⟨a1, c1, rfl⟩ := i1.form
    obtain ⟨a2, c2, rfl⟩ := i2.form
    exact tells_long a1 a2 _ _ c1 c2 x s w ht hl
  · obtain ⟨c, hc⟩ := ec_any xs
    obtain ⟨c2, hc2⟩ := ec_any ys
    by_cases h0 : c = 0
    · subst h0
      by_cases h2 : c2 = 0
      · subst h2
        exact tells_sets a xs ys v1 v2 x s w ht hE hml i1 i2 (by omega) (by omega) (by omega) hc.zero hc2.zero
      · exact tells_second a xs ys v1 v2 x s w ht hE hml i1 i2 (by omega) (by omega) (by omega) c2 hc.zero hc2 (hc2.pos h2)
    · exact tells_first a xs ys v1 v2 x s w ht hE hml i1 i2 (by omega) (by omega) (by omega) c hc (hc.pos h0)
end Go.Proofs.YtgmjmadacmgnkaaGreatDoor
